/- The contract of the law's apart: what WireOnce says. -/
import Derived.Test.YtlegaajacmjejaaAlive
import Derived.Test.YtlegaajacmjejaaCodec
import Derived.BigQuiet
import Derived.Deep.QuietTactic
namespace Go.Proofs.Ytlegaajacmjejaa
set_option maxRecDepth 100000
open Go.RowKit

theorem below_drewN {B : Nat} {a w : World} (h : Below B a w) (n : Nat) : Below B a (w.drewN n) := ⟨h.os, h.tape, h.output, h.size, h.block⟩
/-- A writer stands beside another one's writing. -/
theorem Wtr.beside {w w' : World} {B g g2 : Nat} {v v2 v' : Value} {xs ys : List Nat} (h : Wtr w B g v xs) (k : Wrote w w' B g2 v2 v' ys) (hg : g ≠ g2) (h1 : v2.ownBlock ≠ some g) (h2 : ∀ j, v.ownBlock = some j → j ≠ g2 ∧ v2.ownBlock ≠ some j) : Wtr w' B g v xs :=
  ⟨h.low, (k.touch.block g h.lt hg h1).trans h.block, row_stays h.own (fun j hj => k.touch.block j (h.own.lt j hj).2 (h2 j hj).1 (h2 j hj).2)⟩
theorem ownBlock_nil : (Value.slice none 0 0).ownBlock = none := rfl
/-- The world of the two writers. -/
theorem two_new (w : World) : Wtr ((w.alloc (.cells #[.slice none 0 0] 28)).alloc (.cells #[.slice none 0 0] 28)) w.heap.size w.heap.size (.slice none 0 0) [] ∧
    Wtr ((w.alloc (.cells #[.slice none 0 0] 28)).alloc (.cells #[.slice none 0 0] 28)) w.heap.size (w.heap.size + 1) (.slice none 0 0) [] := by
  have h1 := (wtr_new w).alloc (.cells #[.slice none 0 0] 28)
  have h2 := wtr_new (w.alloc (.cells #[.slice none 0 0] 28))
  rw [World.size_alloc] at h2
  exact ⟨h1, by omega, h2.block, World.ownsRow_nil _ _ _ _⟩

theorem strN_take (xs : List Nat) (k : Nat) : ((strN xs).extract 0 k).toList = (xs.take k).map UInt8.ofNat := by
  rw [ByteArray.toList_eq, ByteArray.data_extract, Array.toList_extract, strN_data]
  simp
theorem strN_take_ne (xs ys : List Nat) (k : Nat) (hx : ∀ x ∈ xs, x < 256) (hy : ∀ x ∈ ys, x < 256) (h : xs.take k ≠ ys.take k) : (((strN xs).extract 0 k).toList == ((strN ys).extract 0 k).toList) = false := by
  rw [strN_take, strN_take]
  exact beq_eq_false_iff_ne.2 fun he => h (map_byte_inj _ _ (fun x hx' => hx x (List.mem_of_mem_take hx')) (fun x hx' => hy x (List.mem_of_mem_take hx')) he)

set_option maxHeartbeats 1000000 in
theorem apart_any (a b : Int) (u v : Nat) (ha : Fits a) (hb : Fits b) (hu : u < 18446744073709551616) (hv : v < 18446744073709551616) (w : World) :
    Calls Try.prog 30 #[.int .i64 a, .int .i64 b, .int .u64 (u : Int), .int .u64 (v : Int)] w fun e w' => e = .returned (.bool true) ∧ Below w.heap.size w w' := by
  have HA := Lib.hid (alive_any w)
  have hla := cntN_length _ (foldN_lt ha)
  have hlb := cntN_length _ (foldN_lt hb)
  have HX0 := Lib.hid (fun (B g : Nat) (v : Value) (w : World) (hw : Wtr w B g v []) => num_any B g v [] a ha w hw (by simp))
  have HY0 := Lib.hid (fun (B g : Nat) (v : Value) (w : World) (hw : Wtr w B g v []) => num_any B g v [] b hb w hw (by simp))
  rw [show ∀ l : List Nat, [] ++ l = l from fun _ => rfl] at HX0 HY0
  have hsx := strN_size (cntN (foldN a))
  have hsy := strN_size (cntN (foldN b))
  obtain ⟨xs, hxs⟩ : ∃ xs, xs = cntN (foldN a) := ⟨_, rfl⟩
  obtain ⟨ys, hys⟩ : ∃ ys, ys = cntN (foldN b) := ⟨_, rfl⟩
  rw [← hxs] at hsx hla HX0
  rw [← hys] at hsy hlb HY0
  have hcx := fun (w' : World) A c (h : Rdv w' A xs.length 1 (valsB xs)) => run_str w' A xs.length c xs h
  have hcy := fun (w' : World) A c (h : Rdv w' A ys.length 1 (valsB ys)) => run_str w' A ys.length c ys h
  obtain ⟨s, hs⟩ : ∃ s, s = strN xs := ⟨_, rfl⟩
  obtain ⟨t, ht⟩ : ∃ t, t = strN ys := ⟨_, rfl⟩
  rw [← hs] at hsx hcx
  rw [← ht] at hsy hcy
  have HCX := Lib.hid hcx
  have HCY := Lib.hid hcy
  have HOX0 := Lib.hid (fun (B g : Nat) (v : Value) (w : World) (hw : Wtr w B g v xs) => out_any B g v xs w hw (by omega))
  have HOY0 := Lib.hid (fun (B g : Nat) (v : Value) (w : World) (hw : Wtr w B g v ys) => out_any B g v ys w hw (by omega))
  have HAB := Lib.hid (show a = b → s = t from fun h => by rw [hs, ht, hxs, hys, h])
  have HNE := Lib.hid (show a ≠ b → ∀ k, k = min s.size t.size → ((s.extract 0 k).toList == (t.extract 0 k).toList) = false from fun h k hk => by
    have h0 : foldN a ≠ foldN b := fun he => h (fold_inj ha hb he)
    have h1 := cntN_apart (foldN_lt ha) (foldN_lt hb) h0 k (by rw [hk, hsx, hsy, hxs, hys])
    rw [hs, ht]
    rw [← hxs, ← hys] at h1
    exact strN_take_ne xs ys k (by rw [hxs]; exact cntN_small_all _) (by rw [hys]; exact cntN_small_all _) h1)
  have hbx : s.size ≤ 10 := by omega
  have hby : t.size ≤ 10 := by omega
  clear hxs hys hs ht hsx hsy ha hb hla hlb hcx hcy
  go_enter Try.func30, Try.ntmps30
  go_wp2_with fail
  refine Calls.mono HA.out ?_
  rintro e w1 ⟨rfl, hb1⟩
  have HB1 := Lib.hid hb1
  obtain ⟨n1, n2⟩ := two_new w1
  have HX := Lib.hid (HX0.out _ _ _ _ n1)
  have HN2 := Lib.hid n2
  have HT := Lib.hid (show Below w1.heap.size w1 ((w1.alloc (.cells #[.slice none 0 0] 28)).alloc (.cells #[.slice none 0 0] 28)) from ((Below.refl _ w1).alloc (Nat.le_refl _) _).alloc (by simp) _)
  clear hb1 n1 n2
  go_wp2_with fail
  refine Calls.mono HX.out ?_
  rintro e w2 ⟨rfl, v2, h2⟩
  have HB2 := Lib.hid (HT.out.trans (h2.below (fun k hk => by cases hk) HT.out.size))
  have n2 := HN2.out.beside h2 (by omega) (by simp [ownBlock_nil]) (fun j hj => by cases hj)
  have HY := Lib.hid (HY0.out _ _ _ _ n2)
  have hrow : ∀ j, v2.ownBlock = some j → w1.heap.size + 2 ≤ j := by
    intro j hj
    rcases h2.row with h3 | ⟨k, h3, h4⟩
    · rw [h3] at hj; cases hj
    · rw [h3] at hj; cases hj; simpa using h4
  have HR := Lib.hid hrow
  have HW := Lib.hid h2.wtr
  clear h2 n2 hrow
  go_wp2_with fail
  refine Calls.mono HY.out ?_
  rintro e w3 ⟨rfl, v3, h3⟩
  have HX3 := Lib.hid (HW.out.beside h3 (by omega) (by simp [ownBlock_nil]) (fun j hj => ⟨by have := HR.out j hj; omega, by simp [ownBlock_nil]⟩))
  have HB3 := Lib.hid (HB2.out.trans (h3.below (fun k hk => by cases hk) HB2.out.size))
  have HOX := Lib.hid (fun w' (h : Below w3.heap.size w3 w') => HOX0.out _ _ _ w' (HX3.out.ext h))
  have HOY := Lib.hid (fun w' (h : Below w3.heap.size w3 w') => HOY0.out _ _ _ w' (h3.wtr.ext h))
  clear h3 HX HY HN2 HT HX3 HR HW HX0 HY0 HOX0 HOY0
  go_wp2_with fail
  go_region_law (first | (go_simp; go_at_call 21; (with_reducible refine Calls.mono (HOX.out _ (by exact (Below.refl _ _).drew)) ?_); rintro e w4 ⟨_, rfl, A, c, rfl, h3, h4, h5⟩; have e1 := HCX.out w4 A c h3; have hb4 : Below w3.heap.size w3 w4 := (Below.refl _ w3).drew.trans h5) | (go_simp; go_at_call 21; (with_reducible refine Calls.mono (HOY.out _ (by exact hb4)) ?_); rintro e w5 ⟨_, rfl, A2, c2, rfl, h6, h7, h8⟩; have e2 := HCY.out w5 A2 c2 h6; have e3 := HCX.out w5 A c (h3.ext (stays_b h8)); have hb5 : Below w3.heap.size w3 w5 := hb4.trans (h8.mono hb4.size)))
  all_goals
    clear e1 e2 e3 h3 h4 h5 h6 h7 h8 HOX HOY HCX HCY
    by_cases hab : a = b
    · have hst := HAB.out hab
      subst hst
      subst hab
      have q1 : (a != a) = false := by simp
      go_wp2_with fail
      go_quiet (fail)
      go_wp2_with fail
      · refine Calls.mono (size_any u hu _) ?_
        rintro e w6 ⟨rfl, rfl⟩
        go_wp2_with fail
        refine Calls.mono (size_any v hv _) ?_
        rintro e w6 ⟨rfl, rfl⟩
        have hsm := size_mono hu hv (by assumption)
        go_wp2_with fail
        go_ret
        exact ⟨rfl, (HB1.out.trans ((HB3.out.trans (hb5.mono HB3.out.size)).mono HB1.out.size)).trans (below_drewN (Below.refl _ _) _)⟩
      · go_ret
        exact ⟨rfl, (HB1.out.trans ((HB3.out.trans (hb5.mono HB3.out.size)).mono HB1.out.size)).trans (below_drewN (Below.refl _ _) _)⟩
    · have hne : (a != b) = true := bne_iff_ne.2 hab
      have heq : (a == b) = false := beq_eq_false_iff_ne.2 hab
      obtain ⟨k, hk⟩ : ∃ k, k = min s.size t.size := ⟨_, rfl⟩
      have hm : min (s.size : Int) (t.size : Int) = (k : Int) := by omega
      have hks : k ≤ s.size := by omega
      have hkt : k ≤ t.size := by omega
      have hse := HNE.out hab k hk
      clear hk
      go_wp2_with fail
      go_quiet (fail)
      go_wp2_with fail
      · refine Calls.mono (size_any u hu _) ?_
        rintro e w6 ⟨rfl, rfl⟩
        go_wp2_with fail
        refine Calls.mono (size_any v hv _) ?_
        rintro e w6 ⟨rfl, rfl⟩
        have hsm := size_mono hu hv (by assumption)
        go_wp2_with fail
        go_ret
        exact ⟨rfl, (HB1.out.trans ((HB3.out.trans (hb5.mono HB3.out.size)).mono HB1.out.size)).trans (below_drewN (Below.refl _ _) _)⟩
      · go_ret
        exact ⟨rfl, (HB1.out.trans ((HB3.out.trans (hb5.mono HB3.out.size)).mono HB1.out.size)).trans (below_drewN (Below.refl _ _) _)⟩
end Go.Proofs.Ytlegaajacmjejaa
