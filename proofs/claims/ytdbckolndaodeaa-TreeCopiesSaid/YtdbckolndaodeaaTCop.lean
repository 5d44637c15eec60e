/- TreeCopies: the walk. -/
import Derived.Test.YtdbckolndaodeaaTPlays
import Derived.Test.YtdbckolndaodeaaTNil
namespace Go.Proofs.Ytdbckolndaodeaa
set_option maxRecDepth 100000
open Go.RowKit

theorem tn_copy {w0 w : World} {tb d n : Nat} {l : List Ix} (h : TN w0 w tb l d n) : Calls Try.prog 23 #[.pointer (some ⟨tb, 0, none⟩)] w fun e w' => ∃ tb', e = .returned (.pointer (some ⟨tb', 0, none⟩)) ∧ TN w w' tb' l d n := by
  obtain ⟨F, h1, _⟩ := h.ex
  refine Calls.mono (tcopy_any h1) ?_
  rintro e w' ⟨F', tb', rfl, h3, h4, h5⟩
  exact ⟨tb', rfl, ⟨F', h3, h4⟩, h.few, h.nums, h5⟩
set_option maxHeartbeats 16000000 in
theorem copies_law (A : Option Addr) (ca : Nat) (os : List Ot) (B : Option Addr) (cb : Nat) (ps : List Ot) (k : Int) (w : World) (ho : Ots w A os) (hk : ∀ o ∈ os, In64 o.k) (hp : Ots w B ps) (hq : ∀ o ∈ ps, In64 o.k) : Calls Try.prog 6 #[.slice A os.length ca, .slice B ps.length cb, .int .i64 k] w fun e w' => e = .returned (.bool true) ∧ Below w.heap.size w w' := by
  have HA := Lib.hid (alive_any w)
  have HO := Lib.hid ho
  have HK := Lib.hid hk
  have HP := Lib.hid hp
  have HQ := Lib.hid hq
  obtain ⟨n, hn⟩ : ∃ n, n = os.length := ⟨_, rfl⟩
  have HN := Lib.hid hn
  obtain ⟨n2, hn2⟩ : ∃ n2, n2 = ps.length := ⟨_, rfl⟩
  have HN2 := Lib.hid hn2
  rw [← hn, ← hn2]
  clear ho hk hn hp hq hn2
  by_cases h3 : 300 < n
  · have d3 : decide ((300 : Int) < (n : Int)) = true := decide_eq_true (by omega)
    clear h3
    go_enter Try.func6, Try.ntmps6
    go_wp2_with fail
    refine Calls.mono HA.out ?_
    rintro e w1 ⟨rfl, hb1⟩
    have HB1 := Lib.hid hb1
    clear hb1
    go_wp2_with fail
    refine Calls.mono (long_any A n ca w1) ?_
    rintro e w2 ⟨rfl, rfl⟩
    go_wp2_with fail
    go_ret
    exact ⟨rfl, HB1.out⟩
  by_cases h4 : 300 < n2
  · have d3 : decide ((300 : Int) < (n : Int)) = false := decide_eq_false (by omega)
    have d4 : decide ((300 : Int) < (n2 : Int)) = true := decide_eq_true (by omega)
    clear h3 h4
    go_enter Try.func6, Try.ntmps6
    go_wp2_with fail
    refine Calls.mono HA.out ?_
    rintro e w1 ⟨rfl, hb1⟩
    have HB1 := Lib.hid hb1
    clear hb1
    go_wp2_with fail
    refine Calls.mono (long_any A n ca w1) ?_
    rintro e w2 ⟨rfl, rfl⟩
    go_wp2_with fail
    refine Calls.mono (long_any B n2 cb w1) ?_
    rintro e w2 ⟨rfl, rfl⟩
    go_wp2_with fail
    go_ret
    exact ⟨rfl, HB1.out⟩
  · have d3 : decide ((300 : Int) < (n : Int)) = false := decide_eq_false (by omega)
    have d4 : decide ((300 : Int) < (n2 : Int)) = false := decide_eq_false (by omega)
    have hn3 : n ≤ 300 := by omega
    have hn4 : n2 ≤ 300 := by omega
    clear h3 h4
    go_enter Try.func6, Try.ntmps6
    go_wp2_with fail
    refine Calls.mono HA.out ?_
    rintro e w1 ⟨rfl, hb1⟩
    have HB1 := Lib.hid hb1
    clear hb1
    go_wp2_with fail
    refine Calls.mono (long_any A n ca w1) ?_
    rintro e w2 ⟨rfl, rfl⟩
    go_wp2_with fail
    refine Calls.mono (long_any B n2 cb w1) ?_
    rintro e w2 ⟨rfl, rfl⟩
    go_wp2_with fail
    refine Calls.mono (tn_new w1) ?_
    rintro e w2 ⟨tb, rfl, hT⟩
    have HT0 := Lib.hid (hT.later ((Below.refl _ w2).alloc (Nat.le_refl _) (.cells #[] 65)))
    have HR0 : Hid (Rio (w2.alloc (.cells #[] 65)) 0 (.slice (some ⟨w2.heap.size, 0, none⟩) 0 0) []) := Lib.hid (own_low (own_empty w2 w2.heap.size _ _ _ rfl (Nat.le_refl _)) (Nat.zero_le _))
    clear hT d3 d4
    go_wp2_with fail
    go_loopw [8, 10, 34, 35, 36, 37, 38, 39, 40, 41, 42, 43, 44, 45] (fun v8 _ ix _ _ _ _ _ _ _ _ _ _ _ wr => ∃ (z d : Nat) (l : List Ix), ix = .int .i64 (z : Int) ∧ z ≤ n ∧ TN w1 wr tb l d z ∧ Rio wr 0 v8 l) (fun _ _ ix _ _ _ _ _ _ _ _ _ _ _ _ => n - (intOf ix).toNat)
    case atStart => exact ⟨0, 0, [], rfl, by omega, HT0.out, HR0.out⟩
    case round =>
      obtain ⟨z, d, l, rfl, hz, hT, hR⟩ := hrel
      obtain ⟨Am, cm, rfl⟩ := own_form hR
      have HT := Lib.hid hT
      have HR := Lib.hid hR
      clear HT0 HR0
      by_cases hlt : z < n
      · have hzl : z < os.length := by rw [← HN.out]; exact hlt
        have hbw : Below w.heap.size w wr := HB1.out.trans (HT.out.b.mono HB1.out.size)
        obtain ⟨b, off, rfl, hcl⟩ := Ots.cell (RowAt.below HO.out hbw) (by omega)
        obtain ⟨x0, x1, x2, x3, x4⟩ := hcl z hzl
        obtain ⟨o, ho⟩ : ∃ o, o = os[z] := ⟨_, rfl⟩
        have hok : In64 o.k := by rw [ho]; exact HK.out _ (List.getElem_mem hzl)
        rw [← ho] at x0 x1 x2 x3 x4
        obtain ⟨ml, hml⟩ : ∃ ml, ml = l.length := ⟨_, rfl⟩
        rw [← hml]
        have HML := Lib.hid hml
        clear hcl ho hbw hml hT hR
        go_upto_region 10 with fail
        obtain ⟨W1, hW1⟩ : ∃ W1, W1 = wr.alloc (.cells #[.int .i64 o.k, .int .i64 o.c.v, .int .i64 o.c.s, .bool o.c.dead, .bool o.drop] 31) := ⟨_, rfl⟩
        obtain ⟨bx, hbx⟩ : ∃ bx, bx = wr.heap.size := ⟨_, rfl⟩
        have hb1 : Below wr.heap.size wr W1 := by rw [hW1]; exact (Below.refl _ _).alloc (Nat.le_refl _) _
        have hx1 : W1.heap[bx]? = some (.cells #[.int .i64 o.k, .int .i64 o.c.v, .int .i64 o.c.s, .bool o.c.dead, .bool o.drop] 31 (0, 0)) := by rw [hW1, hbx]; exact heap_alloc_new wr _
        rw [← hW1, ← hbx]
        have HDO := Lib.hid (do_any (c := cm) (A := Am) (HT.out.later hb1) (HR.out.below hb1) (by omega) o hok)
        rw [← HML.out] at HDO
        clear x0 x1 x2 x3 x4 hW1 hbx hb1 hok
        have x0 : W1.cell? ⟨bx, 0, none⟩ = some (.int .i64 o.k) := by rw [cell_of_row _ _ 0 _ _ _ hx1]; rfl
        have x1 : W1.cell? ⟨bx, 1, none⟩ = some (.int .i64 o.c.v) := by rw [cell_of_row _ _ 1 _ _ _ hx1]; rfl
        have x2 : W1.cell? ⟨bx, 2, none⟩ = some (.int .i64 o.c.s) := by rw [cell_of_row _ _ 2 _ _ _ hx1]; rfl
        have x3 : W1.cell? ⟨bx, 3, none⟩ = some (.bool o.c.dead) := by rw [cell_of_row _ _ 3 _ _ _ hx1]; rfl
        have x4 : W1.cell? ⟨bx, 4, none⟩ = some (.bool o.drop) := by rw [cell_of_row _ _ 4 _ _ _ hx1]; rfl
        clear hx1
        go_wp2_with fail
        refine Calls.mono HDO.out ?_
        rintro e w4 ⟨v4, d2, rfl, hT4, hR4, _⟩
        have HT4 := Lib.hid hT4
        have HR4 := Lib.hid hR4
        clear x0 x1 x2 x3 x4 HDO hT4 hR4
        go_wp2_with fail
        go_roundw
        case rel => exact ⟨z + 1, d2, st o l, by go_num, by omega, HT4.out, HR4.out⟩
        case measure => simp [intOf]; omega
      · obtain rfl : z = n := by omega
        rename World => wb
        have HCP := Lib.hid (tn_copy HT.out)
        have HBT : Hid (Below w.heap.size w wb) := Lib.hid (HB1.out.trans (HT.out.b.mono HB1.out.size))
        obtain ⟨ml, hml⟩ : ∃ ml, ml = l.length := ⟨_, rfl⟩
        rw [← hml]
        have HML := Lib.hid hml
        clear hT hR hml hlt hz
        go_wp2_with fail
        refine Calls.mono HCP.out ?_
        rintro e wc ⟨tc, rfl, hC⟩
        have HRC := Lib.hid (HR.out.below hC.b)
        have HC1 : Hid (TN wb wc tc l d (z + 0)) := Lib.hid hC
        have HRD : Hid (Rio wc 0 (.slice Am ml cm) l) := Lib.hid (by rw [HML.out]; exact HRC.out)
        clear hC HCP
        go_wp2_with fail
        go_loopw [12, 14, 51, 52, 53, 54, 55, 56, 57, 58, 59, 60, 61, 62] (fun v12 _ ix _ _ _ _ _ _ _ _ _ _ _ wr => ∃ (y d2 : Nat) (l2 : List Ix), ix = .int .i64 (y : Int) ∧ y ≤ n2 ∧ TN wb wr tc l2 d2 (z + y) ∧ Rio wr 0 v12 l2) (fun _ _ ix _ _ _ _ _ _ _ _ _ _ _ _ => n2 - (intOf ix).toNat)
        case atStart => exact ⟨0, d, l, rfl, by omega, HC1.out, HRD.out⟩
        case round =>
          obtain ⟨y, d2, l2, rfl, hy, hU, hV⟩ := hrel
          obtain ⟨A2, c2, rfl⟩ := own_form hV
          have HU := Lib.hid hU
          have HV := Lib.hid hV
          by_cases hlt : y < n2
          · have hzl : y < ps.length := by rw [← HN2.out]; exact hlt
            have hbw : Below w.heap.size w wr := HBT.out.trans (HU.out.b.mono HBT.out.size)
            obtain ⟨b, off, rfl, hcl⟩ := Ots.cell (RowAt.below HP.out hbw) (by omega)
            obtain ⟨x0, x1, x2, x3, x4⟩ := hcl y hzl
            obtain ⟨o, ho⟩ : ∃ o, o = ps[y] := ⟨_, rfl⟩
            have hok : In64 o.k := by rw [ho]; exact HQ.out _ (List.getElem_mem hzl)
            rw [← ho] at x0 x1 x2 x3 x4
            obtain ⟨m2, hm2⟩ : ∃ m2, m2 = l2.length := ⟨_, rfl⟩
            rw [← hm2]
            have HM2 := Lib.hid hm2
            clear hcl ho hbw hm2 hU hV
            go_upto_region 16 with fail
            obtain ⟨V1, hV1⟩ : ∃ V1, V1 = wr.alloc (.cells #[.int .i64 o.k, .int .i64 o.c.v, .int .i64 o.c.s, .bool o.c.dead, .bool o.drop] 31) := ⟨_, rfl⟩
            obtain ⟨bx, hbx⟩ : ∃ bx, bx = wr.heap.size := ⟨_, rfl⟩
            have hb1 : Below wr.heap.size wr V1 := by rw [hV1]; exact (Below.refl _ _).alloc (Nat.le_refl _) _
            have hx1 : V1.heap[bx]? = some (.cells #[.int .i64 o.k, .int .i64 o.c.v, .int .i64 o.c.s, .bool o.c.dead, .bool o.drop] 31 (0, 0)) := by rw [hV1, hbx]; exact heap_alloc_new wr _
            rw [← hV1, ← hbx]
            have HDO := Lib.hid (do_any (c := c2) (A := A2) (HU.out.later hb1) (HV.out.below hb1) (by omega) o hok)
            rw [← HM2.out] at HDO
            clear x0 x1 x2 x3 x4 hV1 hbx hb1 hok
            have x0 : V1.cell? ⟨bx, 0, none⟩ = some (.int .i64 o.k) := by rw [cell_of_row _ _ 0 _ _ _ hx1]; rfl
            have x1 : V1.cell? ⟨bx, 1, none⟩ = some (.int .i64 o.c.v) := by rw [cell_of_row _ _ 1 _ _ _ hx1]; rfl
            have x2 : V1.cell? ⟨bx, 2, none⟩ = some (.int .i64 o.c.s) := by rw [cell_of_row _ _ 2 _ _ _ hx1]; rfl
            have x3 : V1.cell? ⟨bx, 3, none⟩ = some (.bool o.c.dead) := by rw [cell_of_row _ _ 3 _ _ _ hx1]; rfl
            have x4 : V1.cell? ⟨bx, 4, none⟩ = some (.bool o.drop) := by rw [cell_of_row _ _ 4 _ _ _ hx1]; rfl
            clear hx1
            go_wp2_with fail
            refine Calls.mono HDO.out ?_
            rintro e w4 ⟨v4, d3, rfl, hU4, hV4, _⟩
            have HU4 := Lib.hid hU4
            have HV4 := Lib.hid hV4
            clear x0 x1 x2 x3 x4 HDO hU4 hV4
            go_wp2_with fail
            go_roundw
            case rel => exact ⟨y + 1, d3, st o l2, by go_num, by omega, HU4.out, HV4.out⟩
            case measure => simp [intOf]; omega
          · obtain rfl : y = n2 := by omega
            have hy9 : z + y ≤ 99999 := by omega
            have hz9 : z ≤ 99999 := by omega
            have HT9 := Lib.hid (HT.out.later HU.out.b)
            have HR9 := Lib.hid (HR.out.below HU.out.b)
            have HLA := Lib.hid (show l.length ≤ 100000 from by have := HT9.out.few; omega)
            have HLB := Lib.hid (show l2.length ≤ 100000 from by have := HU.out.few; omega)
            have HWW : Hid (Below w.heap.size w wr) := Lib.hid (HBT.out.trans (HU.out.b.mono HBT.out.size))
            obtain ⟨m2, hm2⟩ : ∃ m2, m2 = l2.length := ⟨_, rfl⟩
            rw [← hm2]
            have HM2 := Lib.hid hm2
            clear hU hV hm2 hlt hy HC1 HRD HT HR HBT
            go_wp2_with fail
            refine Calls.mono (nil_set _ k) ?_
            rintro e v1 ⟨rfl, hb⟩
            have HQ1 : Hid (Below wr.heap.size wr v1) := Lib.hid hb
            clear hb
            go_wp2_with fail
            refine Calls.mono (nil_drop _ k) ?_
            rintro e v2 ⟨rfl, hb⟩
            have HQ2 : Hid (Below wr.heap.size wr v2) := Lib.hid ((HQ1.out.alloc HQ1.out.size _).trans (hb.mono (HQ1.out.alloc HQ1.out.size _).size))
            clear hb
            go_wp2_with fail
            refine Calls.mono (nil_get _ k) ?_
            rintro e v3 ⟨rfl, hb⟩
            have HQ3 : Hid (Below wr.heap.size wr v3) := Lib.hid ((HQ2.out.alloc HQ2.out.size _).trans (hb.mono (HQ2.out.alloc HQ2.out.size _).size))
            clear hb
            go_upto_region 22 with fail
            obtain ⟨W8, hW8⟩ : ∃ W8, W8 = v3.alloc (.cells #[.int .i64 0, .int .i64 0, .bool false] 29) := ⟨_, rfl⟩
            rw [← hW8]
            have hb8 : Below wr.heap.size wr W8 := by rw [hW8]; exact HQ3.out.alloc HQ3.out.size _
            have HT8 := Lib.hid (HT9.out.later hb8)
            have HU8 := Lib.hid (HU.out.later hb8)
            have HR8 := Lib.hid (HR9.out.below hb8)
            have HV8 := Lib.hid (HV.out.below hb8)
            have HW8 : Hid (Below w.heap.size w W8) := Lib.hid (HWW.out.trans (hb8.mono HWW.out.size))
            have HL1 := Lib.hid (list_any HT8.out hz9 (-9223372036854775808) 9223372036854775807)
            rw [rng_all HT8.out.nums] at HL1
            clear hW8 hb8 HQ1 HQ2 HQ3 HT9 HU HR9 HV HWW
            go_wp2_with fail
            refine Calls.mono HL1.out ?_
            rintro e x1 ⟨v, rfl, hR, hb⟩
            obtain ⟨A3, c3, rfl⟩ := own_form hR
            have HSA := Lib.hid (same_any (c := c3) (c2 := cm) (Rio.ris hR rfl) (Rio.ris (HR8.out.below hb) rfl) HLA.out)
            rw [← HML.out] at HSA
            rw [← HML.out]
            have HU1 := Lib.hid (HU8.out.later hb)
            have HT1 := Lib.hid (HT8.out.later hb)
            have HV1 := Lib.hid (HV8.out.below hb)
            have HW1 := Lib.hid (HW8.out.trans (hb.mono HW8.out.size))
            clear hR hb HL1 HT8 HU8 HR8 HV8 HW8
            go_wp2_with fail
            refine Calls.mono HSA.out ?_
            rintro e x2 ⟨rfl, hb⟩
            have HU2 := Lib.hid (HU1.out.later hb)
            have HT2 := Lib.hid (HT1.out.later hb)
            have HV2 := Lib.hid (HV1.out.below hb)
            have HW2 := Lib.hid (HW1.out.trans (hb.mono HW1.out.size))
            have HL2 := Lib.hid (list_any HU2.out hy9 (-9223372036854775808) 9223372036854775807)
            rw [rng_all HU2.out.nums] at HL2
            clear hb HSA HU1 HT1 HV1 HW1
            go_wp2_with fail
            refine Calls.mono HL2.out ?_
            rintro e x3 ⟨v, rfl, hR, hb⟩
            obtain ⟨A4, c4, rfl⟩ := own_form hR
            have HSB := Lib.hid (same_any (c := c4) (c2 := c2) (Rio.ris hR rfl) (Rio.ris (HV2.out.below hb) rfl) HLB.out)
            rw [← HM2.out] at HSB
            rw [← HM2.out]
            have HU3 := Lib.hid (HU2.out.later hb)
            have HT3 := Lib.hid (HT2.out.later hb)
            have HW3 := Lib.hid (HW2.out.trans (hb.mono HW2.out.size))
            clear hR hb HL2 HT2 HU2 HV2 HW2
            go_wp2_with fail
            refine Calls.mono HSB.out ?_
            rintro e x4 ⟨rfl, hb⟩
            have HU4 := Lib.hid (HU3.out.later hb)
            have HS4 := Lib.hid (tn_sound (HT3.out.later hb) (by omega))
            have HW4 := Lib.hid (HW3.out.trans (hb.mono HW3.out.size))
            clear hb HSB HU3 HT3 HW3
            go_wp2_with fail
            refine Calls.mono HS4.out ?_
            rintro e x5 ⟨rfl, hb⟩
            have HS5 := Lib.hid (tn_sound (HU4.out.later hb) (by omega))
            have HW5 := Lib.hid (HW4.out.trans (hb.mono HW4.out.size))
            clear hb HS4 HU4 HW4
            go_wp2_with fail
            refine Calls.mono HS5.out ?_
            rintro e x6 ⟨rfl, hb⟩
            have HW6 := Lib.hid (HW5.out.trans (hb.mono HW5.out.size))
            clear hb HS5 HW5
            go_wp2_with fail
            refine Calls.mono (nil_list x6 _ _) ?_
            rintro e x7 ⟨v, rfl, hR, hb⟩
            obtain ⟨A5, c5, rfl⟩ := own_form hR
            have HW7 := Lib.hid (HW6.out.trans (hb.mono HW6.out.size))
            clear hb hR HW6
            go_wp2_with fail
            refine Calls.mono (nil_len x7) ?_
            rintro e x8 ⟨rfl, rfl⟩
            go_wp2_with fail
            refine Calls.mono (nil_deep x7) ?_
            rintro e x8 ⟨rfl, rfl⟩
            go_wp2_with fail
            refine Calls.mono (nil_sound x7) ?_
            rintro e x8 ⟨rfl, rfl⟩
            go_wp2_with fail
            refine Calls.mono (nil_copy x7) ?_
            rintro e x8 ⟨rfl, rfl⟩
            go_wp2_with fail
            go_ret
            exact ⟨rfl, HW7.out⟩
end Go.Proofs.Ytdbckolndaodeaa
