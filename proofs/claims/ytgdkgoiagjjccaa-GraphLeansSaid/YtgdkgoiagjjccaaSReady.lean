/- Which tasks are ready. -/
import Derived.Test.YtgdkgoiagjjccaaZC
namespace Go.Proofs.Ytgdkgoiagjjccaa
set_option maxRecDepth 100000
open Go.RowKit

/-- The first ready tasks. -/
def rdyTo (s : PS) (k : Nat) : List Int := ((List.range k).filter s.rdy).map Int.ofNat
theorem rdyTo_succ (s : PS) (k : Nat) : rdyTo s (k + 1) = rdyTo s k ++ if s.rdy k = true then [(k : Int)] else [] := by
  unfold rdyTo
  rw [List.range_succ, List.filter_append, List.map_append]
  congr 1
  cases h : s.rdy k <;> simp [h]
theorem rdyTo_len (s : PS) (k : Nat) : (rdyTo s k).length ≤ k := by
  unfold rdyTo
  rw [List.length_map]
  have := List.length_filter_le s.rdy (List.range k)
  rwa [List.length_range] at this
theorem rdyTo_fits (s : PS) (k : Nat) (hk : k ≤ 1000000) : ∀ x ∈ rdyTo s k, Fits x := by
  intro x hx
  simp only [rdyTo, List.mem_map, List.mem_filter, List.mem_range] at hx
  obtain ⟨y, ⟨hy, _⟩, rfl⟩ := hx
  unfold Fits
  simp only [Int.ofNat_eq_natCast]
  omega
set_option maxHeartbeats 2000000 in
theorem ready_any' {B : Nat} {W : World} {bp bt bw : Nat} {s : PS} {sa : Nat → Option Addr} {sc : Nat → Nat} (h : PlanAt B W bp bt bw s sa sc) :
    Calls Try.prog 50 #[ptr bp] W fun e W' => ∃ v, e = .returned v ∧ ∃ A c, v = .slice A (rdyTo s s.n).length c ∧ Nums W' A (rdyTo s s.n).length (rdyTo s s.n) ∧ Below W.heap.size W W' := by
  have HH := Lib.hid h
  have hb := h.big
  obtain ⟨p0, -, -, -⟩ := h.pl
  obtain ⟨n, hn⟩ : ∃ n, n = s.n := ⟨_, rfl⟩
  rw [← hn] at p0 hb
  have HNN := Lib.hid hn
  have hn1 := hb.1
  unfold ptr
  clear h hn hb
  go_enter Try.func50, Try.ntmps50
  go_wp2_with fail
  go_loopw [3, 4, 5, 13] (fun v _ _ x wr => ∃ k : Nat, x = .int .i64 (k : Int) ∧ k ≤ n ∧ wr.ownsRow W.heap.size 3 1 v (rdyTo s k).length (valsZ (rdyTo s k)) ∧ Below W.heap.size W wr) (fun _ _ _ x _ => n - (intOf x).toNat)
  case atStart => exact ⟨0, rfl, by omega, World.ownsRow_nil _ _ _ _, Below.refl _ _⟩
  case round =>
    obtain ⟨k, rfl, hk, hown, hbr⟩ := hrel
    by_cases hlt : k < n
    · have P := HH.out.below hbr
      obtain ⟨t0, t1, t2, t3⟩ := P.tk k (by rw [← HNN.out]; exact hlt)
      have hs := rdyTo_succ s k
      have hl := rdyTo_len s k
      have C := fun w => ready_any (s.kd k) (s.wk k) (s.wt k) (sa k) (s.ln k).length (sc k) w
      unfold taskV at C
      have er : (decide (s.kd k = 0) && decide (s.wt k = 0)) = s.rdy k := rfl
      simp only [er] at C
      obtain ⟨A1, c1, hv1, _, _, _⟩ := nums_own hown (rdyTo_fits s k (by omega))
      subst hv1
      have HOWN := Lib.hid hown
      have HB := Lib.hid hbr
      obtain ⟨kd, hkd⟩ : ∃ z, z = s.kd k := ⟨_, rfl⟩
      obtain ⟨wk, hwk⟩ : ∃ z, z = s.wk k := ⟨_, rfl⟩
      obtain ⟨wt, hwt⟩ : ∃ z, z = s.wt k := ⟨_, rfl⟩
      obtain ⟨L, hL⟩ : ∃ z, z = (s.ln k).length := ⟨_, rfl⟩
      change wr.cell? ⟨bt, k * 4 + 3, none⟩ = some (.slice (sa k) (s.ln k).length (sc k)) at t3
      rw [← hkd] at t0 C
      rw [← hwk] at t1 C
      rw [← hwt] at t2 C
      rw [← hL] at t3 C
      cases hr : s.rdy k with
      | true =>
        rw [hr, if_pos rfl] at hs
        simp only [hr] at C
        have HC := Lib.hid C
        have HS := Lib.hid hs
        clear C hs P hown hbr hkd hwk hwt hL er hr
        go_wp2_with fail
        refine Calls.mono (HC.out _) ?_
        rintro e w2 ⟨rfl, hb2⟩
        have hb3 := ((Below.refl _ wr).alloc (Nat.le_refl _) (.cells #[.int .i64 kd, .int .i64 wk, .int .i64 wt, .slice (sa k) L (sc k)] 127)).trans (hb2.mono (by simp))
        have HB2 := Lib.hid (HB.out.trans (hb3.mono HB.out.size))
        have HO2 := Lib.hid (ownsRow_ext HOWN.out hb3)
        have HO3 := Lib.hid (HO2.out.alloc (.cells #[.int .i64 (k : Int)] 3))
        have HR3 := Lib.hid (show Rdv (w2.alloc (.cells #[.int .i64 (k : Int)] 3)) (some ⟨w2.heap.size, 0, none⟩) 1 1 [.int .i64 (k : Int)] from ⟨rfl, fun _ => ⟨_, _, rfl, fun j u hj => by
          rcases j with _ | j
          · simp at hj; subst hj; rw [cell_of_row _ _ _ _ _ (0, 0) (heap_alloc_new w2 _)]; rfl
          · simp at hj⟩⟩)
        have HB3 := Lib.hid (HB2.out.alloc HB2.out.size (.cells #[.int .i64 (k : Int)] 3))
        have hsz := HB2.out.size
        clear hb2 hb3
        go_wp2_with (at_builtin; refine wpList_append_rowv elem38 rfl (.tmp 20) (.tmp 22) rfl W.heap.size _ (rdyTo s k).length _ rfl HO3.out (some ⟨w2.heap.size, 0, none⟩) 1 1 [.int .i64 (k : Int)] rfl HR3.out (by intro u hu; simp at hu; subst hu; rfl) (fun h => by cases h) (by unfold maxLen; omega) (by omega) (by rw [World.size_alloc]; omega) ?_; intro v3 w3 hown3 hb3)
        go_roundw
        case rel =>
          refine ⟨k + 1, by go_num, by omega, ?_, HB3.out.trans hb3⟩
          rw [HS.out, List.length_append]
          have e : valsZ (rdyTo s k ++ [(k : Int)]) = valsZ (rdyTo s k) ++ [.int .i64 (k : Int)] := by simp [valsZ]
          rw [e]
          exact hown3
        case measure => simp [intOf]; omega
      | false =>
        rw [hr, if_neg (by decide), List.append_nil] at hs
        simp only [hr] at C
        have HC := Lib.hid C
        have HS := Lib.hid hs
        clear C hs P hown hbr hkd hwk hwt hL er hr
        go_wp2_with fail
        refine Calls.mono (HC.out _) ?_
        rintro e w2 ⟨rfl, hb2⟩
        have hb3 := ((Below.refl _ wr).alloc (Nat.le_refl _) (.cells #[.int .i64 kd, .int .i64 wk, .int .i64 wt, .slice (sa k) L (sc k)] 127)).trans (hb2.mono (by simp))
        have HB2 := Lib.hid (HB.out.trans (hb3.mono HB.out.size))
        have HO2 := Lib.hid (ownsRow_ext HOWN.out hb3)
        clear hb2 hb3
        go_wp2_with fail
        go_roundw
        case rel => exact ⟨k + 1, by go_num, by omega, by rw [HS.out]; exact HO2.out, HB2.out⟩
        case measure => simp [intOf]; omega
    · obtain rfl : k = n := by omega
      obtain ⟨A1, c1, hv1, hnum, _, _⟩ := nums_own hown (rdyTo_fits s k (by omega))
      rw [HNN.out] at hv1 hnum
      subst hv1
      have HN := Lib.hid hnum
      have HB := Lib.hid hbr
      clear hnum hbr hown
      go_wp2_with fail
      go_ret
      exact ⟨_, rfl, A1, c1, rfl, HN.out, HB.out⟩
end Go.Proofs.Ytgdkgoiagjjccaa
