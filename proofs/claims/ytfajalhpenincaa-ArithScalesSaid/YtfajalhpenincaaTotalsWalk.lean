/- ArithTotals answers true of whatever numbers. -/
import Derived.Test.YtfajalhpenincaaSumsWalk
import Derived.Test.YtfajalhpenincaaRowv
import Derived.Test.YtfajalhpenincaaInts
import Derived.Test.YtfajalhpenincaaAlive
namespace Go.Proofs.Ytfajalhpenincaa
open Go.RowKit

theorem elem23 : ElemT Try.prog 23 3 1 8 :=
  ⟨Try.underlying23, by kernel_rfl, by
    obtain ⟨i, hi, hz, h1, _⟩ := info_parts i64_info
    exact ⟨i, _, hi, hz, rfl⟩, by decide⟩
def valsZ (xs : List Int) : List Value := xs.map (Value.int .i64)
theorem valsZ_one (xs : List Int) : ∀ u ∈ valsZ xs, u.oneCell' = true := by
  intro u hu
  simp only [valsZ, List.mem_map] at hu
  obtain ⟨x, _, rfl⟩ := hu
  rfl
theorem rdv_nums {w : World} {A : Option Addr} {n : Nat} {xs : List Int} (h : Nums w A n xs) : Rdv w A n 1 (valsZ xs) := by
  refine ⟨by simp [valsZ, h.1], fun hn => ?_⟩
  obtain ⟨b, off, e, hc⟩ := h.2.2 hn
  refine ⟨b, off, e, fun j u hj => ?_⟩
  have hl : j < xs.length := by
    rcases Nat.lt_or_ge j xs.length with h' | h'
    · exact h'
    · rw [List.getElem?_eq_none (by simp [valsZ]; exact h')] at hj; cases hj
  rw [hc j (by rw [← h.1]; exact hl)]
  simp [valsZ, hl] at hj
  rw [← hj]
  simp [List.getD_eq_getElem?_getD, hl]
theorem nums_rdv {w : World} {A : Option Addr} {n : Nat} {xs : List Int} (h : Rdv w A n 1 (valsZ xs)) (hf : ∀ x ∈ xs, Fits x) : Nums w A n xs := by
  have hl : xs.length = n := by have := h.1; simpa [valsZ] using this
  refine ⟨hl, hf, fun hn => ?_⟩
  obtain ⟨b, off, e, hc⟩ := h.2 hn
  refine ⟨b, off, e, fun j hj => hc j _ ?_⟩
  simp [valsZ, List.getD_eq_getElem?_getD, show j < xs.length by omega]
theorem nums_own {w : World} {B n : Nat} {v : Value} {xs : List Int} (h : w.ownsRow B 3 1 v n (valsZ xs)) (hf : ∀ x ∈ xs, Fits x) : ∃ A c, v = .slice A n c ∧ Nums w A n xs ∧ (A = none → c = 0) ∧ n ≤ c := by
  obtain ⟨A, c, hv, hr, h1, h2⟩ := rdv_own h
  exact ⟨A, c, hv, nums_rdv hr hf, h1, h2⟩
theorem dg_store {w : World} {A A1 : Option Addr} {n n1 c1 g : Nat} {ds : List Nat} {s : Bool} (h : Dg w A n ds) (hg : Bg w g s (.slice A1 n1 c1)) (x y : Value) : Dg ((w.setCell ⟨g, 0, none⟩ x).setCell ⟨g, 1, none⟩ y) A n ds := by
  refine ⟨h.1, h.2.1, fun hn => ?_⟩
  obtain ⟨b, off, e, hc⟩ := h.2.2 hn
  refine ⟨b, off, e, fun j hj => ?_⟩
  have h1 := hc j hj
  rw [World.cell?_setCell_other (h := fun h2 => by rw [← h2, hg.cell1] at h1; cases h1), World.cell?_setCell_other (h := fun h2 => by rw [← h2, hg.cell0] at h1; cases h1)]
  exact h1
theorem sum_small {xs : List Int} (h : ∀ x ∈ xs, Fits x) (k : Nat) (hk : k ≤ xs.length) (h100 : k ≤ 100) : (sumZ (xs.take k)).natAbs ≤ 922337203685477580800 := by
  have := sumZ_bound h k hk
  omega

theorem nums_drop {w : World} {b off k : Nat} {xs : List Int} (h : Nums w (some ⟨b, off, none⟩) k xs) (j : Nat) (hj : j ≤ k) : Nums w (some ⟨b, off + j, none⟩) (k - j) (xs.drop j) := by
  refine ⟨by simp [h.1], fun x hx => h.2.1 x (List.mem_of_mem_drop hx), fun hn => ⟨b, off + j, rfl, fun i hi => ?_⟩⟩
  obtain ⟨b', off', e, hc⟩ := h.2.2 (by omega)
  injection e with e
  injection e with e1 e2 e3
  subst e1 e2
  have h1 := hc (j + i) (by omega)
  rw [show off + j + i = off + (j + i) by omega, h1]
  simp [List.getD_eq_getElem?_getD]
theorem nums_take {w : World} {b off k : Nat} {xs : List Int} (h : Nums w (some ⟨b, off, none⟩) k xs) (j : Nat) (hj : j ≤ k) : Nums w (some ⟨b, off, none⟩) j (xs.take j) := by
  refine ⟨by simp [h.1]; omega, fun x hx => h.2.1 x (List.mem_of_mem_take hx), fun hn => ?_⟩
  obtain ⟨b', off', e, hc⟩ := h.2.2 (by omega)
  refine ⟨b', off', e, fun i hi => ?_⟩
  rw [hc i (by omega)]
  simp [List.getD_eq_getElem?_getD, hi]
theorem sumZ_append (a b : List Int) : sumZ (a ++ b) = sumZ a + sumZ b := by
  have h : ∀ (l : List Int) (z : Int), l.foldl (· + ·) z = z + l.foldl (· + ·) 0 := by
    intro l
    induction l with
    | nil => intro z; simp
    | cons x l ih => intro z; simp only [List.foldl_cons]; rw [ih (z + x), ih (0 + x)]; omega
  unfold sumZ
  rw [List.foldl_append, h b]
theorem sumZ_rot (xs : List Int) (j : Nat) : sumZ (xs.drop j ++ xs.take j) = sumZ xs := by
  have h := sumZ_append (xs.take j) (xs.drop j)
  rw [List.take_append_drop] at h
  rw [sumZ_append, h]; omega

set_option maxHeartbeats 4000000 in
set_option maxRecDepth 100000 in
theorem totals_any (A : Option Addr) (n c : Nat) (xs : List Int) (turn : Int) (w : World) (hr : Nums w A n xs) (hc : n ≤ c) (hnil : A = none → c = 0) (hn : n ≤ 9223372036854775807) (hcm : c ≤ 9223372036854775807) :
    Calls Try.prog 5 #[.slice A n c, .int .i64 turn] w fun e w' => e = .returned (.bool true) ∧ Below w.heap.size w w' := by
  have HA := Lib.hid (fun w => alive_any w)
  by_cases h100 : 100 < n
  · clear hr
    go_enter Try.func5, Try.ntmps5
    go_wp2_with fail
    refine Calls.mono (HA.out _) ?_
    rintro e w1 ⟨rfl, hb1⟩
    go_wp2_with fail
    go_ret
    exact ⟨rfl, hb1⟩
  · have HR := Lib.hid hr
    clear hr
    go_enter Try.func5, Try.ntmps5
    go_wp2_with fail
    refine Calls.mono (HA.out _) ?_
    rintro e w1 ⟨rfl, hb1⟩
    have hz0 : BigOf (w1.alloc (.cells #[.bool false, .slice none 0 0] 25)) false none 0 0 [] 0 := ⟨⟨rfl, fig_nil, fun h => absurd h (by omega)⟩, rfl, by simp [Norm], rfl, Nat.le_refl _, fun _ => rfl, by omega⟩
    have hg0 := box_one w1 false (.slice none 0 0)
    have hb2 := hb1.alloc hb1.size (.cells #[.bool false, .slice none 0 0] 25)
    have Z0 := Lib.hid hz0
    have G0 := Lib.hid hg0
    have B2 := Lib.hid hb2
    have HWG := Lib.hid hb1.size
    clear hz0 hg0 hb2 hb1
    go_wp2_with fail
    revert Z0 G0 B2 HWG
    generalize w1.alloc (.cells #[.bool false, .slice none 0 0] 25) = w2
    obtain ⟨g, hg⟩ : ∃ g, g = w1.heap.size := ⟨_, rfl⟩
    rw [← hg]
    intro Z0 G0 B2 HWG
    clear hg
    go_loopw [7, 22] (fun _ i wr => ∃ (k : Nat) (s : Bool) (A1 : Option Addr) (n1 c1 : Nat) (ds : List Nat), i = .int .i64 (k : Int) ∧ k ≤ n ∧ Bg wr g s (.slice A1 n1 c1) ∧ BigOf wr s A1 n1 c1 ds (sumZ (xs.take k)) ∧ Below w.heap.size w wr ∧ w.heap.size ≤ g) (fun _ i _ => n - (intOf i).toNat)
    case atStart => exact ⟨0, _, _, _, _, _, rfl, by omega, G0.out, Z0.out, B2.out, HWG.out⟩
    case round =>
      obtain ⟨k, s, A1, n1, c1, ds, rfl, hk, hg, hz, hbr, hwg⟩ := hrel
      clear Z0 G0 B2
      by_cases hlt : k < n
      · obtain ⟨b, off, rfl, hcc⟩ := (HR.out.ext (stays_w hbr)).2.2 (by omega)
        have hcell := hcc k hlt
        have hxf := getD_fits HR.out.2.1 k
        have hsum := sumZ_snoc xs k (by rw [HR.out.1]; exact hlt)
        have hs1 := sum_small HR.out.2.1 (k + 1) (by rw [HR.out.1]; exact hlt) (by omega)
        obtain ⟨x, hx⟩ : ∃ x, x = xs.getD k 0 := ⟨_, rfl⟩
        rw [← hx] at hcell hxf hsum
        obtain ⟨T, hT⟩ : ∃ T, T = sumZ (xs.take k) := ⟨_, rfl⟩
        rw [← hT] at hz hsum
        rw [hsum] at hs1
        have O := Lib.hid (fun w => of_big x hxf w)
        have AD := Lib.hid (fun p q w hp hq => addB_any p q T x w hp hq (big_small (by omega)))
        have HSUM := Lib.hid hsum
        have HG := Lib.hid (show Bg wr.drew g s (.slice A1 n1 c1) from hg)
        have HX := Lib.hid (show IsBig wr.drew (.agg #[.bool s, .slice A1 n1 c1]) T from ⟨s, A1, n1, c1, ds, rfl, hz.ext (fun p _ => by simp)⟩)
        have HBR := Lib.hid (show Below w.heap.size w wr.drew from hbr.drew)
        have k0 := hg.cell0
        have k1 := hg.cell1
        clear hcc hx hT hxf hs1 hsum hg hz hbr HR
        go_wp2_with fail
        go_region_law (first | (go_simp; go_at_call 10; refine Calls.mono (O.out _) ?_; rintro e w3 ⟨y, rfl, hy, hb3⟩; have hg3 := Bg.below HG.out hb3 HG.out.lt; have k0 := hg3.cell0; have k1 := hg3.cell1; have hx3 := HX.out.ext (stays_below hb3)) | (go_simp; go_at_call 15; refine Calls.mono (AD.out _ _ _ hx3 hy) ?_; rintro e w4 ⟨z, rfl, hz, hb4⟩; obtain ⟨s4, A4, n4, c4, ds4, rfl, hz4⟩ := hz; have hg4 := hg3.below hb4 hg3.lt; have c0 := hg4.cell0; have f0 := hg4.frozen 0; have c1' := (hg4.set0 s4).cell1; have f1 := (hg4.set0 s4).frozen 1))
        all_goals
          have hd := dg_store hz4.dg hg4 (.bool s4) (.slice A4 n4 c4)
          have N1 := Lib.hid ((hg4.set0 s4).set1 (.slice A4 n4 c4))
          have N2 := Lib.hid (hz4.redg hd)
          have hbe := HBR.out.trans (hb3.mono HBR.out.size)
          have N3 := Lib.hid (((hbe.trans (hb4.mono hbe.size)).setCell (p := ⟨g, 0, none⟩) hwg (.bool s4)).setCell (p := ⟨g, 1, none⟩) hwg (.slice A4 n4 c4))
          clear hd hbe hz4 hg4 hg3 hx3 hb3 hb4 hy k0 k1 c0 f0 c1' f1
          go_wp2_with fail
          go_roundw
          case rel => exact ⟨k + 1, s4, A4, n4, c4, ds4, by go_num, by omega, N1.out, by rw [HSUM.out]; exact N2.out, N3.out, hwg⟩
          case measure => simp [intOf]; omega
      · obtain rfl : k = n := by omega
        rw [List.take_of_length_le (by rw [HR.out.1]; exact Nat.le_refl _)] at hz
        have hs1 := sum_small HR.out.2.1 k (by rw [HR.out.1]; exact Nat.le_refl _) (by omega)
        rw [List.take_of_length_le (by rw [HR.out.1]; exact Nat.le_refl _)] at hs1
        have HZ := Lib.hid hz
        have HG := Lib.hid hg
        have HBR := Lib.hid hbr
        have HRR := Lib.hid (HR.out.ext (stays_w hbr))
        have hgl := hg.lt
        have HOW := Lib.hid (own_empty wr wr.heap.size 3 1 3 rfl (Nat.le_refl _))
        have HRA := Lib.hid (rdv_nums (HRR.out.ext (w' := wr.alloc (.cells #[] 3)) (fun _ hp => World.cell?_alloc_lt wr _ _ hp)))
        have HBA := Lib.hid ((Below.refl wr.heap.size wr).alloc (Nat.le_refl _) (.cells #[] 3))
        clear hz hg hbr hgl
        go_wp2_with (at_builtin; refine wpList_append_rowv elem23 rfl (.tmp 31) (.tmp 32) rfl wr.heap.size _ 0 [] rfl HOW.out A k c (valsZ xs) rfl HRA.out (valsZ_one xs) hnil (by unfold maxLen; omega) (by omega) (by rw [World.size_alloc]; omega) ?_; intro v3 w3 hown3 hb3; rw [Nat.zero_add, List.nil_append] at hown3)
        obtain ⟨A5, c5, rfl, hnum5, hnil5, hle5⟩ := nums_own hown3 HRR.out.2.1
        have hb3' := HBA.out.trans hb3
        have HG3 := Lib.hid (HG.out.below hb3' HG.out.lt)
        have HZ3 := Lib.hid (HZ.out.ext (stays_below hb3'))
        have HL3 := Lib.hid (HRR.out.ext (stays_w hb3'))
        have HB3 := Lib.hid (HBR.out.trans (hb3'.mono HBR.out.size))
        have HN5 := Lib.hid hnum5
        have C4 := total_any A5 k c5 xs w3 hnum5 hn
        have I4 := fun x w h => is_big x (sumZ xs) w h
        obtain ⟨Z, hZ⟩ : ∃ Z, Z = sumZ xs := ⟨_, rfl⟩
        rw [← hZ] at C4 I4
        have HZ3' := HZ3.out
        rw [← hZ] at HZ3'
        have HZ4 := Lib.hid HZ3'
        have NM := fun w => num_any Z w
        obtain ⟨N, hN⟩ : ∃ N, N = numN Z := ⟨_, rfl⟩
        obtain ⟨E, hE⟩ : ∃ E, E = numE Z := ⟨_, rfl⟩
        rw [← hN, ← hE] at C4 I4
        rw [← hE] at NM
        have D4 := Lib.hid C4
        have J4 := Lib.hid I4
        have DN := Lib.hid NM
        have HZZ := Lib.hid hZ
        have HNN := Lib.hid hN
        have HEE := Lib.hid hE
        clear C4 I4 NM HZ3' hZ hN hE hnum5 hb3' hb3 hown3 HOW HRA HBA hnil5 hle5 HRR HZ HZ3 HG HBR HR hs1
        refine Calls.mono D4.out ?_
        rintro e w4 ⟨rfl, hb4⟩
        have hg4 := HG3.out.below hb4 HG3.out.lt
        have k0 := hg4.cell0
        have k1 := hg4.cell1
        have HX4 := Lib.hid (show IsBig w4 (.agg #[.bool s, .slice A1 n1 c1]) Z from ⟨s, A1, n1, c1, ds, rfl, HZ4.out.ext (stays_below hb4)⟩)
        have HL4 := Lib.hid (HL3.out.ext (stays_w hb4))
        have HN4 := Lib.hid (HN5.out.ext (stays_w hb4))
        have HB4 := Lib.hid (HB3.out.trans (hb4.mono HB3.out.size))
        clear hg4 hb4
        go_wp2_with fail
        refine Calls.mono (J4.out _ _ HX4.out) ?_
        rintro e w5 ⟨rfl, hb5⟩
        have HL5 := Lib.hid (HL4.out.ext (stays_w hb5))
        have HN5' := Lib.hid (HN4.out.ext (stays_w hb5))
        have HB5 := Lib.hid (HB4.out.trans (hb5.mono HB4.out.size))
        clear hb5 k0 k1
        go_wp2_with fail
        refine Calls.mono (ints_same A5 k c5 A c xs w5 HN5'.out HL5.out hn) ?_
        rintro e w6 ⟨rfl, hb6⟩
        have HL6 := Lib.hid (HL5.out.ext (stays_w hb6))
        have HB6 := Lib.hid (HB5.out.trans (hb6.mono HB5.out.size))
        clear hb6
        by_cases hk0 : k = 0
        · subst hk0
          go_wp2_with fail
          go_ret
          exact ⟨rfl, HB6.out⟩
        · have hk1 : ((k : Int) == 0) = false := by rw [beq_eq_false_iff_ne]; omega
          have hu0 : 0 ≤ IntKind.u64.wrap turn := by
            have e : IntKind.u64.wrap turn = turn % 18446744073709551616 := by simp [IntKind.wrap, IntKind.bits, IntKind.signed]
            rw [e]; omega
          have ht0 := Int.tmod_nonneg (k : Int) hu0
          have htk := Int.tmod_lt_of_pos (IntKind.u64.wrap turn) (show (0 : Int) < k by omega)
          obtain ⟨j, hj⟩ : ∃ j : Nat, (j : Int) = (IntKind.u64.wrap turn).tmod (k : Int) := ⟨_, Int.toNat_of_nonneg ht0⟩
          rw [← hj] at ht0 htk
          have hjk : j < k := by omega
          have ej : (IntKind.u64.wrap turn).tmod (k : Int) = (j : Int) := hj.symm
          clear hu0 ht0 htk hj
          obtain ⟨b, off, rfl, hcc⟩ := HL6.out.2.2 (by omega)
          have hjk' : j ≤ k := by omega
          have hjc : j ≤ c := by omega
          have hcj : ¬ c = j := by omega
          have HD := Lib.hid (rdv_nums (nums_drop HL6.out j hjk'))
          have HT := Lib.hid (rdv_nums (nums_take HL6.out j hjk'))
          have HW := Lib.hid (show (w6.alloc (.cells #[] 3)).drew.ownsRow w6.heap.size 3 1 (.slice (some ⟨w6.heap.size, 0, none⟩) 0 0) 0 [] from own_empty w6 w6.heap.size 3 1 3 rfl (Nat.le_refl _))
          have HX := Lib.hid (show Below w6.heap.size w6 (w6.alloc (.cells #[] 3)).drew from ((Below.refl w6.heap.size w6).alloc (Nat.le_refl _) _).drew)
          have HF := Lib.hid HL6.out.2.1
          have HL := Lib.hid HL6.out.1
          have hrot : sumZ (xs.drop j ++ xs.take j) = Z := by rw [HZZ.out]; exact sumZ_rot xs j
          have HROT := Lib.hid hrot
          clear hcc hrot HL6 HL5 HN5' HX4 HL4 HN4 HL3 HN5 HG3 HZ4 D4 J4
          go_wp2_with fail
          go_region_law (first | (refine step_append_rowv elem23 (by simp [Region.wanted]) (.tmp 60) (.tmp 63) rfl w6.heap.size _ 0 [] rfl HW.out (some ⟨b, off + j, none⟩) (k - j) (c - j) (valsZ (xs.drop j)) rfl (HD.out.ext (stays_w HX.out)) (valsZ_one _) (by intro h; cases h) (by unfold maxLen; omega) (by omega) (by simp) ?_; intro v7 w7 hown7 hb7; rw [Nat.zero_add, List.nil_append] at hown7; have hb7' := HX.out.trans hb7) | (refine step_append_rowv elem23 (by simp [Region.wanted]) (.tmp 64) (.tmp 67) rfl w6.heap.size _ (k - j) _ rfl hown7 (some ⟨b, off, none⟩) j c (valsZ (xs.take j)) rfl (HT.out.ext (stays_w hb7')) (valsZ_one _) (by intro h; cases h) (by unfold maxLen; omega) (by omega) hb7'.size ?_; intro v8 w8 hown8 hb8; have hb8' := hb7'.trans hb8))
          all_goals
            have hown9 : w8.ownsRow w6.heap.size 3 1 v8 k (valsZ (xs.drop j ++ xs.take j)) := by
              have e : valsZ (xs.drop j ++ xs.take j) = valsZ (xs.drop j) ++ valsZ (xs.take j) := by simp [valsZ]
              rw [e]; exact (show (k - j) + j = k by omega) ▸ hown8
            obtain ⟨A9, c9, rfl, hnum9, _, _⟩ := nums_own hown9 (fun x hx => HF.out x (by
              rcases List.mem_append.1 hx with h | h
              · exact List.mem_of_mem_drop h
              · exact List.mem_of_mem_take h))
            have C9 := total_any A9 k c9 _ w8 hnum9 hn
            rw [HROT.out, ← HNN.out, ← HEE.out] at C9
            have D9 := Lib.hid C9
            have HB8 := Lib.hid (HB6.out.trans (hb8'.mono HB6.out.size))
            obtain ⟨q, hq⟩ : ∃ q, q = numC Z := ⟨_, rfl⟩
            rw [← hq] at DN
            clear C9 hnum9 hown9 hown8 hown7 hb7 hb8 hb7' hb8' hq HW HD HT HX
            go_wp2_with fail
            refine Calls.mono D9.out ?_
            rintro e w9 ⟨rfl, hb9⟩
            have HE9 := Lib.hid (HB8.out.trans (hb9.mono HB8.out.size))
            clear hb9
            go_wp2_with fail
            refine Calls.mono (DN.out _) ?_
            rintro e w10 ⟨rfl, rfl⟩
            go_wp2_with fail
            refine Calls.mono (DN.out _) ?_
            rintro e w10 ⟨rfl, rfl⟩
            go_wp2_with fail
            go_ret
            exact ⟨rfl, HE9.out⟩
end Go.Proofs.Ytfajalhpenincaa
