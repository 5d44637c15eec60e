/- TreePlays: the walk. -/
import Derived.Test.YtdbckolndaodeaaTDo
import Derived.Test.YtdbckolndaodeaaTList
namespace Go.Proofs.Ytdbckolndaodeaa
set_option maxRecDepth 100000
open Go.RowKit

theorem rng_all {l : List Ix} (h : ∀ x ∈ l, In64 x.k) : rng (-9223372036854775808) 9223372036854775807 l = l := by
  unfold rng
  exact List.filter_eq_self.2 fun x hx => by
    have := h x hx
    unfold In64 at this
    simp [this.1, this.2]
theorem Fz.cell {w w' : World} {b j : Nat} {cs : Array Value} {t : TypeId} {v : Value} (h : Fz w w') (hb : w.heap[b]? = some (.cells cs t (0, 0))) (ht : ¬ TT t) (hv : cs[j]? = some v) : w'.cell? ⟨b, j, none⟩ = some v :=
  (cell_of_row _ _ _ _ _ _ ((h.keep _ _ _ hb ht).trans hb)).trans hv
theorem notOp : ¬ TT 31 := by unfold TT; decide
theorem notCell : ¬ TT 29 := by unfold TT; decide
set_option maxHeartbeats 16000000 in
theorem plays_law (A : Option Addr) (c : Nat) (os : List Ot) (lo hi : Int) (w : World) (ho : Ots w A os) (hk : ∀ o ∈ os, In64 o.k) : Calls Try.prog 3 #[.slice A os.length c, .int .i64 lo, .int .i64 hi] w fun e w' => e = .returned (.bool true) ∧ Below w.heap.size w w' := by
  have HA := Lib.hid (alive_any w)
  have HO := Lib.hid ho
  have HK := Lib.hid hk
  obtain ⟨n, hn⟩ : ∃ n, n = os.length := ⟨_, rfl⟩
  have HN := Lib.hid hn
  rw [← hn]
  clear ho hk hn
  by_cases h3 : 300 < n
  · have d3 : decide ((300 : Int) < (n : Int)) = true := decide_eq_true (by omega)
    clear h3
    go_enter Try.func3, Try.ntmps3
    go_wp2_with fail
    refine Calls.mono HA.out ?_
    rintro e w1 ⟨rfl, hb1⟩
    have HB1 := Lib.hid hb1
    clear hb1
    go_wp2_with fail
    refine Calls.mono (long_any A n c w1) ?_
    rintro e w2 ⟨rfl, rfl⟩
    go_wp2_with fail
    go_ret
    exact ⟨rfl, HB1.out⟩
  · have d3 : decide ((300 : Int) < (n : Int)) = false := decide_eq_false (by omega)
    have hn3 : n ≤ 300 := by omega
    clear h3
    go_enter Try.func3, Try.ntmps3
    go_wp2_with fail
    refine Calls.mono HA.out ?_
    rintro e w1 ⟨rfl, hb1⟩
    have HB1 := Lib.hid hb1
    clear hb1
    go_wp2_with fail
    refine Calls.mono (long_any A n c w1) ?_
    rintro e w2 ⟨rfl, rfl⟩
    go_wp2_with fail
    refine Calls.mono (tn_new w1) ?_
    rintro e w2 ⟨tb, rfl, hT⟩
    have HT0 := Lib.hid (hT.later ((Below.refl _ w2).alloc (Nat.le_refl _) (.cells #[] 65)))
    have HR0 : Hid (Rio (w2.alloc (.cells #[] 65)) 0 (.slice (some ⟨w2.heap.size, 0, none⟩) 0 0) []) := Lib.hid (own_low (own_empty w2 w2.heap.size _ _ _ rfl (Nat.le_refl _)) (Nat.zero_le _))
    clear hT d3
    go_wp2_with fail
    go_loopw [8, 10, 11, 12, 13, 14, 15, 16, 25, 26, 27, 28, 29, 30, 31, 32, 33, 34, 35, 36, 37, 38, 39, 40, 41, 42, 43, 44, 45, 46, 47, 48, 49, 50, 51, 52, 53, 54, 55, 56, 57, 58, 59, 60, 61, 62, 63, 64, 65, 66, 67, 68, 69, 70] (fun v8 _ _ _ _ _ _ _ ix _ _ _ _ _ _ _ _ _ _ _ _ _ _ _ _ _ _ _ _ _ _ _ _ _ _ _ _ _ _ _ _ _ _ _ _ _ _ _ _ _ _ _ _ _ wr => ∃ (z d : Nat) (l : List Ix), ix = .int .i64 (z : Int) ∧ z ≤ n ∧ TN w1 wr tb l d z ∧ Rio wr 0 v8 l) (fun v8 _ _ _ _ _ _ _ ix _ _ _ _ _ _ _ _ _ _ _ _ _ _ _ _ _ _ _ _ _ _ _ _ _ _ _ _ _ _ _ _ _ _ _ _ _ _ _ _ _ _ _ _ _ _ => n - (intOf ix).toNat)
    case atStart => exact ⟨0, 0, [], rfl, by omega, HT0.out, HR0.out⟩
    case round =>
      obtain ⟨z, d, l, rfl, hz, hT, hR⟩ := hrel
      obtain ⟨Am, cm, rfl⟩ := own_form hR
      have HT := Lib.hid hT
      have HR := Lib.hid hR
      by_cases hlt : z < n
      · have hzl : z < os.length := by rw [← HN.out]; exact hlt
        have hbw : Below w.heap.size w wr := HB1.out.trans (HT.out.b.mono HB1.out.size)
        obtain ⟨b, off, rfl, hcl⟩ := Ots.cell (RowAt.below HO.out hbw) (by omega)
        obtain ⟨x0, x1, x2, x3, x4⟩ := hcl z hzl
        obtain ⟨o, ho⟩ : ∃ o, o = os[z] := ⟨_, rfl⟩
        have hok : In64 o.k := by rw [ho]; exact HK.out _ (List.getElem_mem hzl)
        rw [← ho] at x0 x1 x2 x3 x4
        obtain ⟨ml, hml⟩ : ∃ ml, ml = l.length := ⟨_, rfl⟩
        rw [← hml]
        have HML := Lib.hid hml
        clear hcl ho hbw hml hT hR
        go_upto_region 10 with fail
        obtain ⟨W1, hW1⟩ : ∃ W1, W1 = wr.alloc (.cells #[.int .i64 o.k, .int .i64 o.c.v, .int .i64 o.c.s, .bool o.c.dead, .bool o.drop] 31) := ⟨_, rfl⟩
        obtain ⟨bx, hbx⟩ : ∃ bx, bx = wr.heap.size := ⟨_, rfl⟩
        have hb1 : Below wr.heap.size wr W1 := by rw [hW1]; exact (Below.refl _ _).alloc (Nat.le_refl _) _
        have hx1 : W1.heap[bx]? = some (.cells #[.int .i64 o.k, .int .i64 o.c.v, .int .i64 o.c.s, .bool o.c.dead, .bool o.drop] 31 (0, 0)) := by rw [hW1, hbx]; exact heap_alloc_new wr _
        rw [← hW1, ← hbx]
        have HX1 := Lib.hid hx1
        have HDO := Lib.hid (do_any (c := cm) (A := Am) (HT.out.later hb1) (HR.out.below hb1) (by omega) o hok)
        rw [← HML.out] at HDO
        obtain ⟨l2, hl2⟩ : ∃ l2, l2 = st o l := ⟨_, rfl⟩
        rw [← hl2] at HDO
        clear x0 x1 x2 x3 x4 hW1 hbx hb1 hl2 hok
        have x0 : W1.cell? ⟨bx, 0, none⟩ = some (.int .i64 o.k) := by rw [cell_of_row _ _ 0 _ _ _ hx1]; rfl
        have x1 : W1.cell? ⟨bx, 1, none⟩ = some (.int .i64 o.c.v) := by rw [cell_of_row _ _ 1 _ _ _ hx1]; rfl
        have x2 : W1.cell? ⟨bx, 2, none⟩ = some (.int .i64 o.c.s) := by rw [cell_of_row _ _ 2 _ _ _ hx1]; rfl
        have x3 : W1.cell? ⟨bx, 3, none⟩ = some (.bool o.c.dead) := by rw [cell_of_row _ _ 3 _ _ _ hx1]; rfl
        have x4 : W1.cell? ⟨bx, 4, none⟩ = some (.bool o.drop) := by rw [cell_of_row _ _ 4 _ _ _ hx1]; rfl
        clear hx1
        go_wp2_with fail
        refine Calls.mono HDO.out ?_
        rintro e w4 ⟨v4, d2, rfl, hT4, hR4, hf4⟩
        obtain ⟨A4, c4, rfl⟩ := own_form hR4
        obtain ⟨m2, hm2⟩ : ∃ m2, m2 = l2.length := ⟨_, rfl⟩
        have hx4 := (hf4.keep _ _ _ HX1.out notOp).trans HX1.out
        obtain ⟨G, hG⟩ : ∃ G, G = getC o.k l2 := ⟨_, rfl⟩
        have HGE := Lib.hid (tn_get hT4 o.k)
        rw [← hG] at HGE
        rw [← hm2]
        have HG := Lib.hid hG
        have HM2 := Lib.hid hm2
        have HT4 := Lib.hid hT4
        have HR4 := Lib.hid hR4
        have HX4 := Lib.hid hx4
        clear x0 x1 x2 x3 x4 HDO hf4 hG hT4 hR4 HX1 hm2
        have x0 : w4.cell? ⟨bx, 0, none⟩ = some (.int .i64 o.k) := by rw [cell_of_row _ _ 0 _ _ _ hx4]; rfl
        clear hx4
        go_wp2_with fail
        refine Calls.mono HGE.out ?_
        rintro e w5 ⟨rfl, hb5⟩
        clear HGE x0
        have HB5 := Lib.hid hb5
        clear hb5
        go_upto_region 13 with fail
        obtain ⟨W6, hW6⟩ : ∃ W6, W6 = w5.alloc (.cells #[.int .i64 (cv G).v, .int .i64 (cv G).s, .bool (cv G).dead] 29) := ⟨_, rfl⟩
        obtain ⟨g1, hg1⟩ : ∃ g1, g1 = w5.heap.size := ⟨_, rfl⟩
        have hb6 : Below w5.heap.size w5 W6 := by rw [hW6]; exact (Below.refl _ _).alloc (Nat.le_refl _) _
        have hb46 : Below w4.heap.size w4 W6 := HB5.out.trans (hb6.mono HB5.out.size)
        have hy6 : W6.heap[g1]? = some (.cells #[.int .i64 (cv G).v, .int .i64 (cv G).s, .bool (cv G).dead] 29 (0, 0)) := by rw [hW6, hg1]; exact heap_alloc_new w5 _
        have hx6 := (hb46.block _ (Array.getElem?_eq_some_iff.1 HX4.out).1).trans HX4.out
        rw [← hW6, ← hg1]
        have HT6 := Lib.hid (HT4.out.later hb46)
        have HR6 := Lib.hid (HR4.out.below hb46)
        have HY6 := Lib.hid hy6
        have HRG := Lib.hid (refGet_any (c := c4) (Rio.ris HR6.out rfl) (by have := HT6.out.few; omega) o.k)
        rw [← HM2.out, ← HG.out] at HRG
        have x0 : W6.cell? ⟨bx, 0, none⟩ = some (.int .i64 o.k) := by rw [cell_of_row _ _ 0 _ _ _ hx6]; rfl
        clear hW6 hg1 hb6 hb46 hy6 hx6 HB5 HX4 HT4 HR4
        go_wp2_with fail
        refine Calls.mono HRG.out ?_
        rintro e w7 ⟨rfl, hb7⟩
        clear HRG x0
        have HB7 := Lib.hid hb7
        clear hb7
        go_upto_region 14 with fail
        obtain ⟨W8, hW8⟩ : ∃ W8, W8 = w7.alloc (.cells #[.int .i64 (cv G).v, .int .i64 (cv G).s, .bool (cv G).dead] 29) := ⟨_, rfl⟩
        obtain ⟨g2, hg2⟩ : ∃ g2, g2 = w7.heap.size := ⟨_, rfl⟩
        have hb8 : Below w7.heap.size w7 W8 := by rw [hW8]; exact (Below.refl _ _).alloc (Nat.le_refl _) _
        have hb68 : Below W6.heap.size W6 W8 := HB7.out.trans (hb8.mono HB7.out.size)
        have hz8 : W8.heap[g2]? = some (.cells #[.int .i64 (cv G).v, .int .i64 (cv G).s, .bool (cv G).dead] 29 (0, 0)) := by rw [hW8, hg2]; exact heap_alloc_new w7 _
        have hy8 := (hb68.block _ (Array.getElem?_eq_some_iff.1 HY6.out).1).trans HY6.out
        rw [← hW8, ← hg2]
        have HT8 := Lib.hid (HT6.out.later hb68)
        have HR8 := Lib.hid (HR6.out.below hb68)
        have HLN := Lib.hid (tn_len HT8.out)
        rw [← HM2.out] at HLN
        have y0 : W8.cell? ⟨g1, 0, none⟩ = some (.int .i64 (cv G).v) := by rw [cell_of_row _ _ 0 _ _ _ hy8]; rfl
        have y1 : W8.cell? ⟨g1, 1, none⟩ = some (.int .i64 (cv G).s) := by rw [cell_of_row _ _ 1 _ _ _ hy8]; rfl
        have y2 : W8.cell? ⟨g1, 2, none⟩ = some (.bool (cv G).dead) := by rw [cell_of_row _ _ 2 _ _ _ hy8]; rfl
        have z0 : W8.cell? ⟨g2, 0, none⟩ = some (.int .i64 (cv G).v) := by rw [cell_of_row _ _ 0 _ _ _ hz8]; rfl
        have z1 : W8.cell? ⟨g2, 1, none⟩ = some (.int .i64 (cv G).s) := by rw [cell_of_row _ _ 1 _ _ _ hz8]; rfl
        have z2 : W8.cell? ⟨g2, 2, none⟩ = some (.bool (cv G).dead) := by rw [cell_of_row _ _ 2 _ _ _ hz8]; rfl
        clear hW8 hg2 hb8 hb68 hz8 hy8 HB7 HY6 HT6 HR6
        go_wp2_with fail
        refine Calls.mono HLN.out ?_
        rintro e w9 ⟨rfl, rfl⟩
        clear HLN
        go_wp2_with fail
        go_roundw
        case rel => exact ⟨z + 1, d2, l2, by go_num, by omega, HT8.out, by rw [HM2.out]; exact HR8.out⟩
        case measure => simp [intOf]; omega
      · obtain rfl : z = n := by omega
        have hz3 : z ≤ 99999 := by omega
        have HL1 := Lib.hid (list_any HT.out hz3 (-9223372036854775808) 9223372036854775807)
        rw [rng_all HT.out.nums] at HL1
        have HLL := Lib.hid (show l.length ≤ 100000 from by have := HT.out.few; omega)
        obtain ⟨ml, hml⟩ : ∃ ml, ml = l.length := ⟨_, rfl⟩
        rw [← hml]
        have HML := Lib.hid hml
        obtain ⟨RL, hRL⟩ : ∃ RL, RL = rng lo hi l := ⟨_, rfl⟩
        have HRL := Lib.hid hRL
        have hrb : RL.length ≤ l.length := by rw [hRL]; exact List.length_filter_le _ _
        have HRB := Lib.hid (Nat.le_trans hrb HLL.out)
        clear hrb
        clear hT hR hml hRL hlt hz
        go_wp2_with fail
        refine Calls.mono HL1.out ?_
        rintro e w3 ⟨v3, rfl, hR3, hb3⟩
        obtain ⟨A3, c3, rfl⟩ := own_form hR3
        have HT3 := Lib.hid (HT.out.later hb3)
        have HR3 := Lib.hid (HR.out.below hb3)
        have HSA := Lib.hid (same_any (c := c3) (c2 := cm) (Rio.ris hR3 rfl) (Rio.ris HR3.out rfl) HLL.out)
        rw [← HML.out] at HSA
        rw [← HML.out]
        clear hR3 hb3 HL1 HT HR
        go_wp2_with fail
        refine Calls.mono HSA.out ?_
        rintro e w4 ⟨rfl, hb4⟩
        have HT4 := Lib.hid (HT3.out.later hb4)
        have HR4 := Lib.hid (HR3.out.below hb4)
        have HL2 := Lib.hid (list_any HT4.out hz3 lo hi)
        rw [← HRL.out] at HL2
        clear hb4 HSA HT3 HR3
        go_wp2_with fail
        refine Calls.mono HL2.out ?_
        rintro e w5 ⟨v5, rfl, hR5, hb5⟩
        obtain ⟨A5, c5, rfl⟩ := own_form hR5
        have HT5 := Lib.hid (HT4.out.later hb5)
        have HR5 := Lib.hid (HR4.out.below hb5)
        have HQ5 := Lib.hid hR5
        have HRR := Lib.hid (refRange_any (c := cm) (Rio.ris HR5.out rfl) HLL.out lo hi)
        rw [← HRL.out, ← HML.out] at HRR
        obtain ⟨rl, hrl⟩ : ∃ rl, rl = RL.length := ⟨_, rfl⟩
        rw [← hrl]
        have HRLL := Lib.hid hrl
        clear hR5 hb5 HL2 HT4 HR4 hrl
        go_wp2_with fail
        refine Calls.mono HRR.out ?_
        rintro e w6 ⟨v6, rfl, hR6, hb6⟩
        obtain ⟨A6, c6, rfl⟩ := own_form hR6
        have HT6 := Lib.hid (HT5.out.later hb6)
        have HS2 := Lib.hid (same_any (c := c5) (c2 := c6) (Rio.ris (HQ5.out.below hb6) rfl) (Rio.ris hR6 rfl) HRB.out)
        rw [← HRLL.out] at HS2
        rw [← HRLL.out]
        clear hR6 hb6 HRR HT5 HR5
        go_wp2_with fail
        refine Calls.mono HS2.out ?_
        rintro e w7 ⟨rfl, hb7⟩
        have HT7 := Lib.hid (HT6.out.later hb7)
        clear hb7
        go_wp2_with fail
        go_ret
        exact ⟨rfl, HB1.out.trans (HT7.out.b.mono HB1.out.size)⟩
end Go.Proofs.Ytdbckolndaodeaa
