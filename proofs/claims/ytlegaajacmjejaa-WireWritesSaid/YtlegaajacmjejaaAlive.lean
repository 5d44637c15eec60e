/- The contract of wire's alive. -/
import Derived.Test.YtlegaajacmjejaaRefW
namespace Go.Proofs.Ytlegaajacmjejaa
set_option maxRecDepth 100000
open Go.RowKit

theorem alive_five : cntN (foldN (-3)) = [5] := by decide +kernel
theorem alive_more : cntN 300 = [172, 2] := by decide +kernel
theorem alive_count : rcount [5, 172, 2] = (5, [172, 2], false) := by decide +kernel
theorem alive_count2 : rcount [172, 2] = (300, [], false) := by decide +kernel
/-- A new writer. -/
theorem wtr_new (w : World) : Wtr (w.alloc (.cells #[.slice none 0 0] 28)) w.heap.size w.heap.size (.slice none 0 0) [] :=
  ⟨Nat.le_refl _, heap_alloc_new w _, World.ownsRow_nil _ _ _ _⟩
theorem Wrote.below {w w' : World} {B g : Nat} {v v' : Value} {xs : List Nat} (h : Wrote w w' B g v v' xs) (hv : ∀ k, v.ownBlock = some k → B ≤ k) (hB : B ≤ w.heap.size) : Below B w w' := h.touch.below h.wtr.low hv hB
set_option maxHeartbeats 1000000 in
theorem alive_any (w : World) :
    Calls Try.prog 13 #[] w fun e w' => e = .returned (.bool true) ∧ Below w.heap.size w w' := by
  have HN := Lib.hid (num_any w.heap.size w.heap.size (.slice none 0 0) [] (-3) (by unfold Fits; omega) _ (wtr_new w) (by simp))
  go_enter Try.func13, Try.ntmps13
  go_wp2_with fail
  refine Calls.mono HN.out ?_
  rintro e w1 ⟨rfl, v1, h1⟩
  have HC := Lib.hid (count_any w.heap.size w.heap.size v1 _ 300 (by omega) w1 h1.wtr (by rw [alive_five]; simp))
  have HB1 := Lib.hid (((Below.refl w.heap.size w).alloc (Nat.le_refl _) _).trans (h1.below (fun k hk => by cases hk) (by rw [World.size_alloc]; omega)))
  have HL1 := Lib.hid (fun k (hk : v1.ownBlock = some k) => (h1.wtr.own.lt k hk).1)
  clear h1
  go_wp2_with fail
  refine Calls.mono HC.out ?_
  rintro e w2 ⟨rfl, v2, h2⟩
  have h2w := h2.wtr
  have HB2 := Lib.hid (HB1.out.trans (h2.below HL1.out HB1.out.size))
  rw [alive_five, alive_more, show [] ++ [5] ++ [172, 2] = [5, 172, 2] from rfl] at h2w
  have HO := Lib.hid (out_any w.heap.size w.heap.size v2 [5, 172, 2] w2 h2w (by simp))
  clear h2 h2w
  go_wp2_with fail
  refine Calls.mono HO.out ?_
  rintro e w3 ⟨_, rfl, A, c, rfl, h3, h4, h5⟩
  have hnil : A = none → c = 0 ∧ 3 = 0 := fun h => by
    rcases h4 with ⟨_, h6, _⟩ | ⟨b, h6, _⟩
    · cases h6
    · rw [h] at h6; cases h6
  have HR := Lib.hid (newReader_any A 3 c [5, 172, 2] w3 h3 hnil (by omega) (by decide))
  have HB3 := Lib.hid (HB2.out.trans (h5.mono HB2.out.size))
  have H3 := Lib.hid h3
  clear h3 h4 h5 hnil
  go_wp2_with fail
  refine Calls.mono HR.out ?_
  rintro e w4 ⟨g, rfl, h6, h7⟩
  have HB4 := Lib.hid (HB3.out.trans (h7.mono HB3.out.size))
  obtain ⟨b, off, rfl, hc⟩ := (H3.out.ext (stays_b h7)).2 (by simp)
  have c0 : w4.cell? ⟨b, off, none⟩ = some (.int .u8 5) := hc 0 _ rfl
  have c1 : w4.cell? ⟨b, off + 1, none⟩ = some (.int .u8 172) := hc 1 _ rfl
  have c2 : w4.cell? ⟨b, off + 2, none⟩ = some (.int .u8 2) := hc 2 _ rfl
  have hn := rnum_any _ _ _ _ w4 h6
  rw [alive_count] at hn
  have HN := Lib.hid hn
  have HO6 := Lib.hid (fun w' (k : Only w4 w' (.pointer (some ⟨g, 0, none⟩))) => (h6.only k (fun j hj => hj.1) h7.size).mono HB3.out.size)
  clear h6 h7 hc hn
  go_wp2_with fail
  refine Calls.mono HN.out ?_
  rintro e w5 ⟨rfl, h8, h9⟩
  have hcn := rcount_any _ _ _ _ w5 h8
  rw [alive_count2] at hcn
  have HC2 := Lib.hid hcn
  have HB5 := Lib.hid h9
  clear h8 h9 hcn
  go_wp2_with fail
  refine Calls.mono HC2.out ?_
  rintro e w6 ⟨rfl, h10, h11⟩
  have HE := Lib.hid (end_any _ _ _ _ w6 h10)
  have HB6 := Lib.hid (HB4.out.trans (HO6.out w6 (HB5.out.trans h11)))
  clear h10 h11
  go_wp2_with fail
  refine Calls.mono HE.out ?_
  rintro e w7 ⟨_, rfl, hv, rfl⟩
  rw [show endV [] false = .nilIface from rfl] at hv
  subst hv
  go_wp2_with fail
  go_ret
  exact ⟨rfl, HB6.out⟩
end Go.Proofs.Ytlegaajacmjejaa
