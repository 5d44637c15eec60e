/- CrcSums answers true of whatever two texts and sum. -/
import Derived.Test.YtfajalhpenincaaDoorCopy
import Derived.Test.YtfajalhpenincaaDoorRef
import Derived.Test.YtfajalhpenincaaDoorPartsWalk
namespace Go.Proofs.YtfajalhpenincaaDoor
open Go.RowKit

set_option maxHeartbeats 1000000 in
theorem sums_any (A : Option Addr) (n c : Nat) (xs : List Nat) (A2 : Option Addr) (n2 c2 : Nat) (ys : List Nat) (s : Nat) (w : World)
    (ha : Bts w A n xs) (hnil : A = none → c = 0) (hb : Bts w A2 n2 ys) (hnil2 : A2 = none → c2 = 0) (hs : s < 4294967296) (hT : Tab w) (hn : n ≤ 9223372036854775807) (hn2 : n2 ≤ 9223372036854775807) :
    Calls Tryd.prog 3 #[.slice A n c, .slice A2 n2 c2, .int .u32 (s : Int)] w fun e w' => e = .returned (.bool true) ∧ Below w.heap.size w w' := by
  have HA := Lib.hid (alive_any w hT)
  by_cases h1 : 5000 < n
  · go_enter Tryd.func3, Tryd.ntmps3
    go_wp2_with fail
    refine Calls.mono HA.out ?_
    rintro e w1 ⟨rfl, hb1⟩
    go_wp2_with fail
    go_ret
    exact ⟨rfl, hb1⟩
  by_cases h2 : 5000 < n2
  · go_enter Tryd.func3, Tryd.ntmps3
    go_wp2_with fail
    refine Calls.mono HA.out ?_
    rintro e w1 ⟨rfl, hb1⟩
    go_wp2_with fail
    go_ret
    exact ⟨rfl, hb1⟩
  have hla := ha.1
  have hlb := hb.1
  have HLA := Lib.hid hla
  have HLB := Lib.hid hlb
  clear hla hlb
  go_enter Tryd.func3, Tryd.ntmps3
  go_wp2_with fail
  refine Calls.mono HA.out ?_
  rintro e w1 ⟨rfl, hb1⟩
  go_wp2_with fail
  refine Calls.mono (copy_any A2 n2 c2 ys w1 (hb.ext (stays_below hb1)) hnil2 (by omega)) ?_
  rintro e w2 ⟨g, cap, rfl, hmk, hb2'⟩
  have hb2 := hb1.trans (hb2'.mono hb1.size)
  clear hb2'
  have hsz2 := hb2.size
  go_wp2_with (first
    | (at_builtin; refine wpList_append_bts rfl (.tmp 21) (.tmp 22) rfl w2.heap.size _ [] rfl ⟨rfl, .inr ⟨_, _, _, rfl, Nat.le_refl _, heap_alloc_new w2 _, Nat.le_refl _, by unfold maxLen; omega, rfl, rfl⟩⟩ A n c xs rfl (ha.ext (stays_below (hb2.alloc hsz2 _))) hnil (by show 0 + n ≤ _; omega) (by simp) ?_; intro v3 w3 hown3 hb3)
    | (at_builtin; refine wpList_append_bts rfl (.tmp 23) (.tmp 24) rfl w2.heap.size _ ([] ++ xs) rfl hown3 A2 n2 c2 ys rfl (hb.ext (stays_below ((hb2.alloc hsz2 _).trans (hb3.mono hsz2)))) hnil2 (by rw [List.nil_append, HLA.out]; omega) (Nat.le_trans (by simp) hb3.size) ?_; intro v4 w4 hown4 hb4))
  have hsx := ha.2.1
  have hsy := hb.2.1
  have hw2w4 : Below w2.heap.size w2 w4 := (((Below.refl _ w2).alloc (Nat.le_refl _) _).trans hb3).trans hb4
  have hbw4 : Below w.heap.size w w4 := hb2.trans (hw2w4.mono hsz2)
  have hsz4 := hbw4.size
  have hbw5 : Below w.heap.size w (w4.alloc (.cells #[.slice A n c, .slice (some ⟨g, 0, none⟩) n2 cap] 22)) := hbw4.alloc hsz4 _
  have hs24 := stays_below hw2w4
  obtain ⟨A4, c4, rfl, hb4', _⟩ := hown4.bts (fun x hx => by
    rcases List.mem_append.1 hx with hx | hx
    · exact hsx x (by simpa using hx)
    · exact hsy x hx)
  obtain ⟨L, hL⟩ : ∃ L, L = ([] ++ xs ++ ys).length := ⟨_, rfl⟩
  have hLn : L ≤ 10000 := by rw [hL, List.length_append, List.nil_append, HLA.out, HLB.out]; omega
  rw [← hL] at hb4' ⊢
  obtain ⟨t, ht⟩ : ∃ t, t = addN 0 ([] ++ xs ++ ys) := ⟨_, rfl⟩
  obtain ⟨u, hu⟩ : ∃ u, u = addN 0 xs := ⟨_, rfl⟩
  obtain ⟨z, hz⟩ : ∃ z, z = addN s ys := ⟨_, rfl⟩
  have hu32 : u < 4294967296 := by rw [hu]; exact addN_lt (by decide) hsx
  have htu : t = addN u ys := by rw [ht, List.nil_append, addN_append, ← hu]
  have C1 := rsum_any A4 L c4 ([] ++ xs ++ ys) w4 hb4' (by omega)
  have C2 := sum_any (some ⟨w4.heap.size, 0, none⟩) 2 2 [xs, ys] (w4.alloc (.cells #[.slice A n c, .slice (some ⟨g, 0, none⟩) n2 cap] 22))
    (rws_new w4 _ 22 _ 2 rfl _ rfl (fun j hj => by
      match j, hj with
      | 0, _ => exact ⟨_, _, _, rfl, ha.ext (stays_below hbw4), hn⟩
      | 1, _ => exact ⟨_, _, _, rfl, (hmk.ext hs24).bts, hn2⟩)) (hT.ext (stays_below hbw5)) (by decide)
  have C3 := rsum_any A n c xs _ (ha.ext (stays_below hbw5)) hn
  have hmk5 := (hmk.ext hs24).ext (stays_alloc w4 (.cells #[.slice A n c, .slice (some ⟨g, 0, none⟩) n2 cap] 22))
  have C4 := add_any u hu32 (some ⟨g, 0, none⟩) n2 cap ys _ hmk5.bts (hT.ext (stays_below hbw5)) hn2
  have C5 := add_any s hs (some ⟨g, 0, none⟩) n2 cap ys _ hmk5.bts (hT.ext (stays_below hbw5)) hn2
  have C6 := radd_any s hs A2 n2 c2 ys _ (hb.ext (stays_below hbw5)) hn2
  have C7 := kept_any g n2 cap ys A2 c2 _ hmk5 (hb.ext (stays_below hbw5)) (by omega)
  have e2 : sumL 0 [xs, ys] = t := by rw [htu, hu]; rfl
  rw [e2] at C2
  rw [← ht] at C1
  rw [← hu] at C3
  rw [← htu] at C4
  rw [← hz] at C5 C6
  have D1 := Lib.hid C1
  have D2 := Lib.hid C2
  have D3 := Lib.hid C3
  have D4 := Lib.hid C4
  have D5 := Lib.hid C5
  have D6 := Lib.hid C6
  have D7 := Lib.hid C7
  have HB := Lib.hid hbw5
  clear C1 C2 C3 C4 C5 C6 C7 hmk5 hbw5 hbw4 hw2w4 hs24 e2 ht hu hz htu hL hb4' hown4 hown3 hb3 hb4 hmk hb2 hsz4 hsz2 hT ha hb HA hsx hsy hb1
  refine Calls.mono D1.out ?_
  rintro e w9 ⟨rfl, rfl⟩
  go_wp2_with fail
  refine Calls.mono D2.out ?_
  rintro e w9 ⟨rfl, rfl⟩
  go_wp2_with fail
  refine Calls.mono D3.out ?_
  rintro e w9 ⟨rfl, rfl⟩
  go_wp2_with fail
  refine Calls.mono D4.out ?_
  rintro e w9 ⟨rfl, rfl⟩
  go_wp2_with fail
  refine Calls.mono D5.out ?_
  rintro e w9 ⟨rfl, rfl⟩
  go_wp2_with fail
  refine Calls.mono D6.out ?_
  rintro e w9 ⟨rfl, rfl⟩
  go_wp2_with fail
  refine Calls.mono D7.out ?_
  rintro e w9 ⟨rfl, rfl⟩
  go_wp2_with fail
  go_ret
  exact ⟨rfl, HB.out⟩
end Go.Proofs.YtfajalhpenincaaDoor
