/- The contract of the law's back: what was written is read. -/
import Derived.Test.YtlegaajacmjejaaVals
import Derived.Test.YtlegaajacmjejaaRead
namespace Go.Proofs.Ytlegaajacmjejaa
set_option maxRecDepth 100000
open Go.RowKit

def VV.enc (v : VV) : List Nat := Ytlegaajacmjejaa.enc v.k v.n v.u v.ys
theorem bytes_back (ys rest : List Nat) (h : ys.length < 18446744073709551616) : bytesOut (cntN ys.length ++ ys ++ rest) = ys ∧ bytesRest (cntN ys.length ++ ys ++ rest) = rest ∧ bytesBad (cntN ys.length ++ ys ++ rest) = false := by
  have e : rcount (cntN ys.length ++ ys ++ rest) = (ys.length, ys ++ rest, false) := by rw [List.append_assoc]; exact rcount_cntN _ h _
  have hf : failT (ys ++ rest) false ys.length = false := by simp [failT]
  unfold bytesOut bytesRest bytesBad
  rw [e]
  refine ⟨?_, ?_, hf⟩
  · show outT (ys ++ rest) false ys.length = ys
    unfold outT; rw [hf]; simp
  · show restT (ys ++ rest) false ys.length = rest
    unfold restT; rw [hf]; simp
/-- The box of a value. -/
abbrev bw (w : World) (v : VV) : World := (w.alloc (.cells #[.int .i64 v.k, .int .i64 v.n, .int .u64 (v.u : Int), .slice v.A v.m v.c] 31)).drew
theorem bw_below (w : World) (v : VV) : Below w.heap.size w (bw w v) := ((Below.refl _ w).alloc (Nat.le_refl _) _).drew
theorem bw_cell (w w1 : World) (v : VV) (S : Nat → Prop) (V : Value) (hS : ∀ j, S j → j < w.heap.size) (hV : ∀ k, V = .pointer (some ⟨k, 0, none⟩) → S k) (h : Only (bw w v) w1 V) (j : Nat) : w1.cell? ⟨w.heap.size, j, none⟩ = (#[Value.int .i64 v.k, .int .i64 v.n, .int .u64 (v.u : Int), .slice v.A v.m v.c])[j]? := by
  have hs : (bw w v).heap.size = w.heap.size + 1 := World.size_alloc _ _
  have hb : (bw w v).heap[w.heap.size]? = some (.cells #[.int .i64 v.k, .int .i64 v.n, .int .u64 (v.u : Int), .slice v.A v.m v.c] 31 (0, 0)) := heap_alloc_new w _
  exact cell_of_row w1 _ j _ 31 (0, 0) ((h.block w.heap.size (by omega) (fun he => by have := hS _ (hV _ he); omega)).trans hb)

set_option maxHeartbeats 4000000 in
theorem back_any (S : Nat → Prop) (V : Value) (v : VV) (rest : List Nat) (w : World) (hr : Rdr w S V (v.enc ++ rest) false) (hS : ∀ j, S j → j < w.heap.size) (hv : VOk w v) (hm : v.m ≤ 300)
    (hrow : ∀ w', Only w w' V → Rdv w' v.A v.m 1 (valsB v.ys)) :
    Calls Try.prog 29 #[V, v.val] w fun e w' => e = .returned (.bool true) ∧ Rdr w' S V rest false ∧ Only w w' V := by
  have hr1 : Rdr (bw w v) S V (v.enc ++ rest) false := hr.stays (bw_below w v).size (fun j hj _ => (bw_below w v).block j hj)
  have HC := Lib.hid (fun w1 h j => bw_cell w w1 v S V hS hr.low' h j)
  have HO := Lib.hid (show Only w (bw w v) V from Only.of_below (bw_below w v))
  have HROW := Lib.hid (fun w1 (h : Only (bw w v) w1 V) => hrow w1 ((Only.of_below (bw_below w v)).trans h))
  have hbl := hv.blen
  have hfit := hv.fits
  have hsm := hv.small
  have hu := hv.u64
  unfold VV.val
  clear hr hS hrow hv
  unfold VV.enc enc at hr1
  obtain ⟨k, n, u, A, m, c, ys⟩ := v
  dsimp only at *
  subst hbl
  by_cases h1 : k = 1
  · subst h1
    rw [if_pos rfl] at hr1
    have hN := rnum_any S V _ _ _ hr1
    rw [rcount_cntN _ (foldN_lt hfit), show (foldN n, rest, false).1 = foldN n from rfl, unfold_fold hfit] at hN
    have HN := Lib.hid hN
    clear hr1 hN hsm
    go_enter Try.func29, Try.ntmps29
    go_wp2_with fail
    go_region_law (go_simp; go_at_call 50; refine Calls.mono HN.out ?_; rintro e w1 ⟨rfl, h2, h3⟩; have c1 : w1.cell? ⟨w.heap.size, 1, none⟩ = some (.int .i64 n) := HC.out w1 h3 1)
    all_goals
      have H2 := Lib.hid h2
      have H3 := Lib.hid (HO.out.trans h3)
      clear h2 h3
      go_wp2_with fail
      go_ret
      first | exact ⟨rfl, H2.out, H3.out⟩ | exact ⟨ret_bool (by simp), H2.out, H3.out⟩
  rw [if_neg h1] at hr1
  by_cases h2 : k = 2
  · subst h2
    rw [if_pos rfl] at hr1
    have hN := rflag_any S V _ _ _ hr1
    clear hr1 hsm
    by_cases hn : n = 1
    · subst hn
      rw [show [flagN (decide ((1 : Int) = 1))] ++ rest = 1 :: rest from rfl, show decide (byteT (1 :: rest) = 1) = true from rfl, show flagRest (1 :: rest) = rest from rfl, show flagBad (1 :: rest) false = false from rfl] at hN
      have HN := Lib.hid hN
      clear hN
      go_enter Try.func29, Try.ntmps29
      go_wp2_with fail
      go_region_law (go_simp; go_at_call 61; refine Calls.mono HN.out ?_; rintro e w1 ⟨rfl, h2, h3⟩; have c1 : w1.cell? ⟨w.heap.size, 1, none⟩ = some (.int .i64 1) := HC.out w1 h3 1)
      all_goals
        have H2 := Lib.hid h2
        have H3 := Lib.hid (HO.out.trans h3)
        clear h2 h3
        go_wp2_with fail
        go_ret
        first | exact ⟨rfl, H2.out, H3.out⟩ | exact ⟨ret_bool (by simp), H2.out, H3.out⟩
    · rw [decide_eq_false hn, show [flagN false] ++ rest = 0 :: rest from rfl, show decide (byteT (0 :: rest) = 1) = false from rfl, show flagRest (0 :: rest) = rest from rfl, show flagBad (0 :: rest) false = false from rfl] at hN
      have HN := Lib.hid hN
      have hn1 : (n == 1) = false := beq_eq_false_iff_ne.2 hn
      clear hN hn
      go_enter Try.func29, Try.ntmps29
      go_wp2_with fail
      go_region_law (go_simp; go_at_call 61; refine Calls.mono HN.out ?_; rintro e w1 ⟨rfl, h2, h3⟩; have c1 : w1.cell? ⟨w.heap.size, 1, none⟩ = some (.int .i64 n) := HC.out w1 h3 1)
      all_goals
        have H2 := Lib.hid h2
        have H3 := Lib.hid (HO.out.trans h3)
        clear h2 h3
        go_wp2_with fail
        go_ret
        first | exact ⟨rfl, H2.out, H3.out⟩ | exact ⟨ret_bool (by simp), H2.out, H3.out⟩
  rw [if_neg h2] at hr1
  by_cases h3 : k = 3
  · subst h3
    rw [if_pos rfl] at hr1
    obtain ⟨b1, b2, b3⟩ := bytes_back ys rest (by omega)
    have hN := rbytes_any S V _ _ _ hr1
    rw [b1, b2, b3] at hN
    have HN := Lib.hid hN
    have HS := Lib.hid (fun w1 A1 c1 (h : Rdv w1 A1 ys.length 1 (valsB ys)) (h' : Only (bw w ⟨3, n, u, A, ys.length, c, ys⟩) w1 V) => same_any A1 A ys.length c1 ys.length c ys ys w1 h (HROW.out w1 h') hsm hsm)
    rw [decide_eq_true rfl] at HS
    clear hr1 hN b1 b2 b3
    go_enter Try.func29, Try.ntmps29
    go_wp2_with fail
    go_region_law (first | (go_simp; go_at_call 63; refine Calls.mono HN.out ?_; rintro e w1 ⟨_, rfl, A1, c1, rfl, h2, h4, h5, h3⟩; have k3 : w1.cell? ⟨w.heap.size, 3, none⟩ = some (.slice A ys.length c) := HC.out w1 h3 3) | (go_simp; go_at_call 22; refine Calls.mono (HS.out _ _ _ h2 h3) ?_; rintro e w2 ⟨rfl, rfl⟩))
    all_goals
      have H2 := Lib.hid h5
      have H3 := Lib.hid (HO.out.trans h3)
      clear h2 h3 h4 h5
      go_wp2_with fail
      go_ret
      exact ⟨rfl, H2.out, H3.out⟩
  rw [if_neg h3] at hr1
  by_cases h4 : k = 4
  · subst h4
    rw [if_pos rfl] at hr1
    obtain ⟨b1, b2, b3⟩ := bytes_back ys rest (by omega)
    have hN := rtext_any S V _ _ _ hr1
    rw [b1, b2, b3] at hN
    have HST := Lib.hid (fun w1 (h' : Only (bw w ⟨4, n, u, A, ys.length, c, ys⟩) w1 V) => run_str w1 A ys.length c ys (HROW.out w1 h'))
    obtain ⟨s, hs⟩ : ∃ s, s = strN ys := ⟨_, rfl⟩
    rw [← hs] at hN HST
    have HN := Lib.hid hN
    have e0 := HST.out _ (Only.refl _ _)
    clear hr1 hN b1 b2 b3 hs
    go_enter Try.func29, Try.ntmps29
    go_wp2_with fail
    go_region_law (go_simp; go_at_call 65; refine Calls.mono HN.out ?_; rintro e w1 ⟨rfl, h5, h3⟩; have k3 : w1.cell? ⟨w.heap.size, 3, none⟩ = some (.slice A ys.length c) := HC.out w1 h3 3; have e1 := HST.out w1 h3)
    all_goals
      have H2 := Lib.hid h5
      have H3 := Lib.hid (HO.out.trans h3)
      clear h3 h5
      go_wp2_with fail
      go_ret
      first | exact ⟨rfl, H2.out, H3.out⟩ | exact ⟨ret_bool (by simp), H2.out, H3.out⟩
  rw [if_neg h4] at hr1
  by_cases h5 : k = 5
  · subst h5
    rw [if_pos rfl] at hr1
    have hN := rbyte_any S V _ _ _ hr1
    rw [show byteT ([(n % 256).toNat] ++ rest) = (n % 256).toNat from rfl, show ([(n % 256).toNat] ++ rest).drop 1 = rest from rfl, show (false || decide (([(n % 256).toNat] ++ rest).length = 0)) = false by simp] at hN
    obtain ⟨b, hb⟩ : ∃ b, b = (n % 256).toNat := ⟨_, rfl⟩
    rw [← hb] at hN
    have e1 : n % 256 = (b : Int) := by omega
    have e2 : IntKind.u8.wrap n = (b : Int) := by rw [← e1]; rfl
    have HN := Lib.hid hN
    clear hr1 hN hb hsm
    go_enter Try.func29, Try.ntmps29
    go_wp2_with fail
    go_region_law (go_simp; go_at_call 66; refine Calls.mono HN.out ?_; rintro e w1 ⟨rfl, h5, h3⟩; have k3 : w1.cell? ⟨w.heap.size, 1, none⟩ = some (.int .i64 n) := HC.out w1 h3 1)
    all_goals
      have H2 := Lib.hid h5
      have H3 := Lib.hid (HO.out.trans h3)
      clear h3 h5
      go_wp2_with fail
      go_ret
      first | exact ⟨rfl, H2.out, H3.out⟩ | exact ⟨ret_bool (by simp), H2.out, H3.out⟩
  rw [if_neg h5] at hr1
  have hN := rcount_any S V _ _ _ hr1
  rw [rcount_cntN _ hu] at hN
  have HN := Lib.hid hN
  have q1 : (k == 1) = false := beq_eq_false_iff_ne.2 h1
  have q2 : (k == 2) = false := beq_eq_false_iff_ne.2 h2
  have q3 : (k == 3) = false := beq_eq_false_iff_ne.2 h3
  have q4 : (k == 4) = false := beq_eq_false_iff_ne.2 h4
  have q5 : (k == 5) = false := beq_eq_false_iff_ne.2 h5
  clear hr1 hN hsm h1 h2 h3 h4 h5
  go_enter Try.func29, Try.ntmps29
  go_wp2_with fail
  go_region_law (go_simp; go_at_call 31; refine Calls.mono HN.out ?_; rintro e w1 ⟨rfl, h5, h3⟩; have k3 : w1.cell? ⟨w.heap.size, 2, none⟩ = some (.int .u64 (u : Int)) := HC.out w1 h3 2)
  all_goals
    have H2 := Lib.hid h5
    have H3 := Lib.hid (HO.out.trans h3)
    clear h3 h5
    go_wp2_with fail
    go_ret
    first | exact ⟨rfl, H2.out, H3.out⟩ | exact ⟨ret_bool (by simp), H2.out, H3.out⟩
end Go.Proofs.Ytlegaajacmjejaa
