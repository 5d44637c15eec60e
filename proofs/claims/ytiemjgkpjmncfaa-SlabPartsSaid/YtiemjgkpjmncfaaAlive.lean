/- The contracts of num.Num, num.Is, slab.Is and of the law's alive. -/
import Derived.Test.YtiemjgkpjmncfaaSeal2
import Derived.Lib.SlBytesConst
import Derived.Deep.WholeRow
namespace Go.Proofs.Ytiemjgkpjmncfaa
set_option maxRecDepth 100000
open Go.RowKit

theorem as71 (v : Value) (w : World) : (Instr.typeAssert (.iface 71 v) 28 71 true).run Try.prog w = .ok (.tuple #[v, .bool true]) w := by kernel_rfl
set_option maxHeartbeats 1000000 in
theorem num_errno (k : Int) (hk : k ≠ 0) (w : World) : Calls Try.prog 17 #[.iface 71 (.int .i64 k)] w fun e w' => e = .returned (.int .i64 k) ∧ w = w' := by
  have h1 := as71
  have h2 : (k != 0) = true := by rw [bne_iff_ne]; exact hk
  go_enter Try.func17, Try.ntmps17
  go_wp2
  refine wp_loop_rounds 1 ?_
  rw [rounds_succ]
  go_wp2
  go_ret
  exact ⟨rfl, rfl⟩
set_option maxHeartbeats 1000000 in
theorem num_nil (w : World) : Calls Try.prog 17 #[.nilIface] w fun e w' => e = .returned (.int .i64 0) ∧ w = w' := by
  go_enter Try.func17, Try.ntmps17
  go_wp2
  refine wp_loop_rounds 1 ?_
  rw [rounds_succ]
  go_wp2
  go_ret
  exact ⟨rfl, rfl⟩
set_option maxHeartbeats 400000 in
theorem is_errno (k : Int) (hk : k ≠ 0) (w : World) : Calls Try.prog 33 #[.iface 71 (.int .i64 k), .int .i64 k] w fun e w' => e = .returned (.bool true) ∧ w = w' := by
  have HC := Lib.hid (num_errno k hk w)
  go_enter Try.func33, Try.ntmps33
  go_wp2_with fail
  refine Calls.mono HC.out ?_
  rintro e w' ⟨rfl, rfl⟩
  go_wp2_with fail
  go_ret
  exact ⟨ret_bool (by simp), rfl⟩
theorem NewAt.later {w w' : World} {A : Option Addr} {n c : Nat} (h : NewAt w w' A n c) (o : Obj) : NewAt w (w'.alloc o) A n c := by
  rcases h with h | ⟨b, e, h1, h2, h3, h4⟩
  · exact .inl h
  · refine .inr ⟨b, e, h1, by rw [World.size_alloc]; omega, h3, fun hn => ?_⟩
    obtain ⟨cs, h5⟩ := h4 hn
    exact ⟨cs, (heap_alloc_old w' o h2).trans h5⟩
/-- What Is answers. -/
def IsE (l : List Nat) (st kd : Int) (w : World) (e : Ending) (w' : World) : Prop :=
  (∃ (d : List Nat) (A : Option Addr) (c a k : Nat), openN l = some (a, k, d) ∧ (a : Int) = st ∧ (k : Int) = kd ∧ e = .returned (.tuple #[.slice A d.length c, .bool true]) ∧ Rdv w' A d.length 1 (valsB d) ∧ NewAt w w' A d.length c) ∨
  ((∀ a k d, openN l = some (a, k, d) → ¬ ((a : Int) = st ∧ (k : Int) = kd)) ∧ e = .returned (.tuple #[.slice none 0 0, .bool false]))
set_option maxHeartbeats 1000000 in
theorem isSlab_any (l : List Nat) (hl : l.length = 64) (hs : ∀ x ∈ l, x < 256) (st kd : Int) (w : World) :
    Calls Try.prog 41 #[.agg (secV l), .int .i64 st, .int .i64 kd] w fun e w' => IsE l st kd w e w' ∧ Below w.heap.size w w' := by
  have HS := Lib.hid (show Sec (w.alloc (.cells (secV l) 50)) w.heap.size l from heap_alloc_new w _)
  have HB := Lib.hid ((Below.refl w.heap.size w).alloc (Nat.le_refl _) (.cells (secV l) 50))
  have HC := Lib.hid (open_any l hl hs (w.alloc (.cells (secV l) 50)))
  have HL := Lib.hid hl
  clear hl hs
  go_enter Try.func41, Try.ntmps41
  go_wp2_with (first | refine wpList_load_sec (by rfl) (.tmp 3) rfl w.heap.size rfl l HL.out HS.out ?_)
  refine Calls.mono HC.out ?_
  rintro e w1 ⟨ho, hb1⟩
  rcases ho with ⟨hn, rfl⟩ | ⟨a, k, d, A, c, hs, rfl, hr, hna⟩
  · have HN := Lib.hid hn
    have HB1 := Lib.hid (HB.out.trans (hb1.mono HB.out.size))
    clear hn hb1
    unfold eCorrupt
    go_wp2_with fail
    go_ret2
    exact ⟨.inr ⟨fun a k d h => (by rw [HN.out] at h; cases h), rfl⟩, HB1.out.alloc HB1.out.size _⟩
  · have HR := Lib.hid hr
    have HNA := Lib.hid (NewAt.mono (w0 := w) hna (by simp))
    have HO := Lib.hid hs
    have HB1 := Lib.hid (HB.out.trans (hb1.mono HB.out.size))
    clear hr hna hs hb1
    by_cases h1 : (a : Int) = st
    · subst h1
      have d1 : ((a : Int) != (a : Int)) = false := by simp
      by_cases h2 : (k : Int) = kd
      · subst h2
        have d2 : ((k : Int) != (k : Int)) = false := by simp
        go_wp2_with fail
        go_ret2
        refine ⟨.inl ⟨d, A, c, a, k, HO.out, rfl, rfl, rfl, HR.out.ext (stays_b (Below.alloc (Below.refl _ w1) (Nat.le_refl _) _)), HNA.out.later _⟩, HB1.out.alloc HB1.out.size _⟩
      · have d2 : ((k : Int) != kd) = true := by rw [bne_iff_ne]; exact h2
        have H2 := Lib.hid h2
        clear h2
        go_wp2_with fail
        go_ret2
        exact ⟨.inr ⟨fun a' k' d' h => (by rw [HO.out] at h; cases h; exact fun h => H2.out h.2), rfl⟩, HB1.out.alloc HB1.out.size _⟩
    · have d1 : ((a : Int) != st) = true := by rw [bne_iff_ne]; exact h1
      have H1 := Lib.hid h1
      clear h1
      go_wp2_with fail
      go_ret2
      exact ⟨.inr ⟨fun a' k' d' h => (by rw [HO.out] at h; cases h; exact fun h => H1.out h.1), rfl⟩, HB1.out.alloc HB1.out.size _⟩
theorem store_new (w1 : World) (l : List Nat) (hl : l.length = 64) : (storeCells ⟨w1.heap.size, 0, none⟩ (secV l).toList).run Try.prog (w1.alloc (.cells #[.int .u8 0, .int .u8 0, .int .u8 0, .int .u8 0, .int .u8 0, .int .u8 0, .int .u8 0, .int .u8 0, .int .u8 0, .int .u8 0, .int .u8 0, .int .u8 0, .int .u8 0, .int .u8 0, .int .u8 0, .int .u8 0, .int .u8 0, .int .u8 0, .int .u8 0, .int .u8 0, .int .u8 0, .int .u8 0, .int .u8 0, .int .u8 0, .int .u8 0, .int .u8 0, .int .u8 0, .int .u8 0, .int .u8 0, .int .u8 0, .int .u8 0, .int .u8 0, .int .u8 0, .int .u8 0, .int .u8 0, .int .u8 0, .int .u8 0, .int .u8 0, .int .u8 0, .int .u8 0, .int .u8 0, .int .u8 0, .int .u8 0, .int .u8 0, .int .u8 0, .int .u8 0, .int .u8 0, .int .u8 0, .int .u8 0, .int .u8 0, .int .u8 0, .int .u8 0, .int .u8 0, .int .u8 0, .int .u8 0, .int .u8 0, .int .u8 0, .int .u8 0, .int .u8 0, .int .u8 0, .int .u8 0, .int .u8 0, .int .u8 0, .int .u8 0] 50)) = .ok () (w1.alloc (.cells (secV l) 50)) := by
  rw [zeros_sec]
  exact run_storeCells_new w1 50 _ _ (info_sec hl) (by rw [secV_size, secV_size, hl, noughts64]) (secV_one l)
theorem rdv_hi (w : World) : Rdv (w.alloc (.cells #[.int .u8 104, .int .u8 105] 5 (2, 3))) (some ⟨w.heap.size, 0, none⟩) 2 1 (valsB [104, 105]) := by
  refine ⟨rfl, fun _ => ⟨_, _, rfl, fun j u hj => ?_⟩⟩
  rw [cell_of_row _ _ _ _ 5 (2, 3) (heap_alloc_new w (.cells #[.int .u8 104, .int .u8 105] 5 (2, 3)))]
  rw [Nat.zero_add]
  exact (show (#[Value.int .u8 104, .int .u8 105])[j]? = (valsB [104, 105])[j]? by simp [valsB]).trans hj
theorem alive_seal : sealN 258 3 [104, 105] = [2, 1, 0, 0, 0, 0, 3, 2, 104, 105] ++ noughts 48 ++ [2, 1, 0, 0, 0, 0] := by decide +kernel
theorem alive_str : strN [104, 105] = { data := #[104, 105] } := by rfl
theorem alive_none : openN (noughts 64) = none := by decide +kernel
theorem alive_len : (sealN 258 3 [104, 105]).length = 64 := sealN_length _ _ _ (by decide)
theorem alive_small : ∀ x ∈ sealN 258 3 [104, 105], x < 256 := sealN_small _ _ _ (by decide) (by decide) (by decide)
theorem alive_open : openN (sealN 258 3 [104, 105]) = some (258, 3, [104, 105]) := openN_sealN _ _ _ (by decide) (by decide) (by decide) (by decide)
set_option maxHeartbeats 2000000 in
theorem alive_any (w : World) : Calls Try.prog 35 #[] w fun e w' => e = .returned (.bool true) ∧ Below w.heap.size w w' := by
  have HA := Lib.hid ((Below.refl w.heap.size w).alloc (Nat.le_refl _) (.cells #[.int .u8 104, .int .u8 105] 5 (2, 3)))
  have HC := Lib.hid (seal_ok 258 3 (some ⟨w.heap.size, 0, none⟩) 2 2 [104, 105] _ (by omega) (by omega) (by omega) (by omega) (by omega) (rdv_hi w) (fun h => by cases h))
  obtain ⟨L, hL⟩ : ∃ L, L = sealN 258 3 [104, 105] := ⟨_, rfl⟩
  rw [← hL] at HC
  have HL := Lib.hid hL
  have HLL := Lib.hid (show L.length = 64 by rw [hL]; exact alive_len)
  have HLS := Lib.hid (show ∀ x ∈ L, x < 256 by rw [hL]; exact alive_small)
  have HLO := Lib.hid (show openN L = some (258, 3, [104, 105]) by rw [hL]; exact alive_open)
  clear hL
  have kc := fun (w : World) (C : Array Value) (n c : Nat) => Lib.run_convert_bytes_const (P := Try.prog) w 45 5 C n c Try.underlying45 Try.underlying5
  have hsz : (secV L).size = 64 := by rw [secV_size]; exact HLL.out
  have hst := fun w1 => store_new w1 L HLL.out
  have e258 : ((258 : Nat) : Int) = 258 := rfl
  have e3 : ((3 : Nat) : Int) = 3 := rfl
  rw [e258, e3] at HC
  clear e258 e3
  go_enter Try.func35, Try.ntmps35
  go_wp2_with fail
  refine Calls.mono HC.out ?_
  rintro e w1 ⟨rfl, hb1⟩
  have HB1 := Lib.hid (HA.out.trans (hb1.mono HA.out.size))
  clear hb1
  go_upto_region 2 with fail
  have hS2 : Sec (w1.alloc (.cells (secV L) 50)) w1.heap.size L := heap_alloc_new w1 _
  have hB2 := HB1.out.alloc HB1.out.size (.cells (secV L) 50)
  obtain ⟨w2, hw2⟩ : ∃ w2, w2 = w1.alloc (.cells (secV L) 50) := ⟨_, rfl⟩
  obtain ⟨g, hg⟩ : ∃ g, g = w1.heap.size := ⟨_, rfl⟩
  rw [← hg] at hS2 ⊢
  rw [← hw2] at hS2 hB2 ⊢
  clear hw2 hg
  have q0 : w2.cell? ⟨g, 0, none⟩ = some (.int .u8 2) := (hS2.cell 0 (by rw [HLL.out]; omega)).trans (by rw [HL.out, alive_seal]; rfl)
  have q1 : w2.cell? ⟨g, 1, none⟩ = some (.int .u8 1) := (hS2.cell 1 (by rw [HLL.out]; omega)).trans (by rw [HL.out, alive_seal]; rfl)
  have q6 : w2.cell? ⟨g, 6, none⟩ = some (.int .u8 3) := (hS2.cell 6 (by rw [HLL.out]; omega)).trans (by rw [HL.out, alive_seal]; rfl)
  have q7 : w2.cell? ⟨g, 7, none⟩ = some (.int .u8 2) := (hS2.cell 7 (by rw [HLL.out]; omega)).trans (by rw [HL.out, alive_seal]; rfl)
  have q8 : w2.cell? ⟨g, 8, none⟩ = some (.int .u8 104) := (hS2.cell 8 (by rw [HLL.out]; omega)).trans (by rw [HL.out, alive_seal]; rfl)
  have q58 : w2.cell? ⟨g, 58, none⟩ = some (.int .u8 2) := (hS2.cell 58 (by rw [HLL.out]; omega)).trans (by rw [HL.out, alive_seal]; rfl)
  have q59 : w2.cell? ⟨g, 59, none⟩ = some (.int .u8 1) := (hS2.cell 59 (by rw [HLL.out]; omega)).trans (by rw [HL.out, alive_seal]; rfl)
  have HS2 := Lib.hid hS2
  have HB2 := Lib.hid hB2
  have HO := Lib.hid (fun w => open_any (noughts 64) noughts64 (fun x hx => by rw [(List.mem_replicate.1 hx).2]; omega) w)
  clear hS2 hB2
  go_wp2_with fail
  clear q0 q1 q6 q7 q8 q58 q59
  rw [zeros_sec]
  refine Calls.mono (HO.out _) ?_
  rintro e w3 ⟨ho, hb3⟩
  rcases ho with ⟨_, rfl⟩ | ⟨a, k, d, A, c, h, _⟩
  · have HS3 := Lib.hid (HS2.out.old hb3)
    have HB3 := Lib.hid (HB2.out.trans (hb3.mono HB2.out.size))
    have HI := Lib.hid (fun w => isSlab_any L HLL.out HLS.out 258 3 w)
    have HN := Lib.hid (fun w => is_errno 9 (by omega) w)
    clear hb3
    unfold eCorrupt
    go_wp2_with (first | refine wpList_load_sec (by rfl) (.tmp 1) rfl g rfl L HLL.out (HS3.out.alloc _) ?_)
    refine Calls.mono (HI.out _) ?_
    rintro e w5 ⟨hi, hb5⟩
    have HB5 := Lib.hid ((HB3.out.alloc HB3.out.size _).trans (hb5.mono (HB3.out.alloc HB3.out.size _).size))
    clear hb5
    rcases hi with ⟨d, A, c, a, k, h1, _, _, rfl, hr, _⟩ | ⟨h1, _⟩
    · rw [HLO.out] at h1
      cases h1
      have es := run_str w5 A 2 c [104, 105] hr
      rw [alive_str] at es
      clear hr
      go_wp2_with fail
      refine Calls.mono (HN.out _) ?_
      rintro e w6 ⟨rfl, rfl⟩
      go_wp2_with fail
      go_ret
      exact ⟨ret_bool (by decide), HB5.out⟩
    · exact absurd ⟨rfl, rfl⟩ (h1 258 3 [104, 105] HLO.out)
  · rw [alive_none] at h; cases h
end Go.Proofs.Ytiemjgkpjmncfaa
