/- A set stands as the document says. -/
import Derived.Test.YthmebgpleegonaaDDoA
namespace Go.Proofs.Ythmebgpleegonaa
set_option maxRecDepth 100000
open Go.RowKit

theorem hasB_neg (ds : List Dk) (i : Int) : hasB ds (-1) i = false := hasB_no (.inl (by omega))
theorem hasB_many (ds : List Dk) (i : Int) : hasB ds (ds.length : Int) i = false := hasB_no (.inr (Int.le_refl _))
theorem sureV_out {ds : List Dk} {d i : Int} (h : hasB ds d i = false) : sureV ds d i = Sx.zero := by unfold sureV; rw [if_neg (by rw [h]; decide)]
theorem sureV_in {ds : List Dk} {j : Nat} (hj : j < ds.length) (i : Nat) (hi : i < ds[j].size) : sureV ds (j : Int) (i : Int) = ds[j].sure (i : Int) := by
  unfold sureV
  rw [if_pos (by rw [hasB_nat ds j hj, decide_eq_true (by omega), decide_eq_true (by omega)]; rfl), Int.toNat_natCast, List.getElem?_eq_getElem hj]
theorem sizeV_in {ds : List Dk} {j : Nat} (hj : j < ds.length) (h : 1 ≤ ds[j].size) : sizeV ds (j : Int) = ds[j].size := by
  unfold sizeV
  rw [if_pos (by rw [hasB_nat ds j hj, decide_eq_true (by omega), decide_eq_true (by omega)]; rfl), Int.toNat_natCast, List.getElem?_eq_getElem hj]
theorem waitV_in {ds : List Dk} {j : Nat} (hj : j < ds.length) (h : 1 ≤ ds[j].size) : waitV ds (j : Int) = ds[j].waits.length := by
  unfold waitV
  rw [if_pos (by rw [hasB_nat ds j hj, decide_eq_true (by omega), decide_eq_true (by omega)]; rfl), Int.toNat_natCast, List.getElem?_eq_getElem hj]
theorem sizeV_out {ds : List Dk} {d : Int} (h : hasB ds d 0 = false) : sizeV ds d = 0 := by unfold sizeV; rw [if_neg (by rw [h]; decide)]
theorem waitV_out {ds : List Dk} {d : Int} (h : hasB ds d 0 = false) : waitV ds d = 0 := by unfold waitV; rw [if_neg (by rw [h]; decide)]
set_option maxHeartbeats 16000000 in
theorem stands_on {w : World} {F X : Nat → Prop} {g : Nat} {p : Pw} {ds : List Dk} {K : Nat} {A : Option Addr} {c : Nat} {left : Int} (h : St w F g p ds K) (hr : RSet w X A c ds) (hok : OkN K ds) (hl : ds.length ≤ 1000) (hKb : K ≤ 1000000) (hps : p.steps ≤ K) (hg : p.gone = false) :
    Calls Try.prog 15 #[.pointer (some ⟨g, 0, none⟩), rsV A c ds p left] w fun e w' => e = .returned (.bool true) ∧ Below w.heap.size w w' := by
  have hb1 : Below w.heap.size w (w.alloc (.cells #[.slice A ds.length c, .int .i64 (p.steps : Int), .int .i64 left, .bool p.ia, .bool p.gone] 33)) := (Below.refl _ _).alloc (Nat.le_refl _) _
  obtain ⟨w1, hw1⟩ : ∃ w1, w1 = w.alloc (.cells #[.slice A ds.length c, .int .i64 (p.steps : Int), .int .i64 left, .bool p.ia, .bool p.gone] 33) := ⟨_, rfl⟩
  have k0 : w1.heap[w.heap.size]? = some (.cells #[.slice A ds.length c, .int .i64 (p.steps : Int), .int .i64 left, .bool p.ia, .bool p.gone] 33 (0, 0)) := by rw [hw1]; exact heap_alloc_new w _
  rw [← hw1] at hb1
  obtain ⟨N, hN⟩ : ∃ N, N = ds.length := ⟨_, rfl⟩
  obtain ⟨z, hz⟩ : ∃ z, z = w.heap.size := ⟨_, rfl⟩
  have HN := Lib.hid hN
  have HZ := Lib.hid hz
  have hzl : z < w1.heap.size := by rw [hz]; exact (Array.getElem?_eq_some_iff.1 k0).1
  -- what is known in each later world
  have HS := Lib.hid (show ∀ W, Below w1.heap.size w1 W → St W F g p ds K from fun W hb => (h.below hb1).below hb)
  have HR := Lib.hid (show ∀ W, Below w1.heap.size w1 W → RSet W X A c ds from fun W hb => (hr.below hb1).below hb)
  have HB := Lib.hid hb1
  have HOK := Lib.hid hok
  rw [← hN] at k0
  rw [← hz] at k0
  have HBX := Lib.hid (show ∀ W, Below w1.heap.size w1 W → W.heap[z]? = some (.cells #[.slice A N c, .int .i64 (p.steps : Int), .int .i64 left, .bool p.ia, .bool p.gone] 33 (0, 0)) from fun W hb => (hb.block z hzl).trans k0)
  unfold rsV
  rw [← hN, hg] at hw1
  rw [← hN, hg]
  rw [hg] at HBX k0
  have HG := Lib.hid hg
  clear h hr hok hb1 hN hg
  go_enter Try.func15, Try.ntmps15
  go_upto_region 1 with fail
  rw [← hw1, ← HZ.out]
  clear hw1 hz
  have q0 := (cell_of_row _ _ 0 _ _ (0, 0) k0).trans rfl
  clear k0
  go_wp2_with fail
  clear q0
  go_loopw [17] (fun i wr => ∃ k : Nat, i = .int .i64 (k : Int) ∧ k ≤ N ∧ Below w1.heap.size w1 wr) (fun i _ => N - (intOf i).toNat)
  case atStart => exact ⟨0, rfl, by omega, Below.refl _ _⟩
  case round =>
    obtain ⟨k, rfl, hk, hb⟩ := hrel
    have HB1 := Lib.hid hb
    clear hb
    by_cases hlt : k < N
    · have hj : k < ds.length := by have := HN.out; omega
      obtain ⟨b, off, rfl, hc⟩ := (HR.out wr HB1.out).cells (by omega)
      obtain ⟨A1, c1, A2, c2, m1, m2, hdk⟩ := hc k hj
      have hokj := HOK.out _ (List.getElem_mem hj)
      have HSV := Lib.hid (show ∀ i : Nat, i < ds[k].size → sureV ds (k : Int) (i : Int) = ds[k].sure (i : Int) from fun i hi => sureV_in hj i hi)
      have HSZV := Lib.hid (sizeV_in hj hokj.2.1)
      have HWV := Lib.hid (waitV_in hj hokj.2.1)
      have HIN := Lib.hid (show ∀ i : Nat, i < ds[k].size → hasB ds (k : Int) (i : Int) = true from fun i hi => by rw [hasB_nat ds k hj, decide_eq_true (by omega), decide_eq_true (by omega)]; rfl)
      obtain ⟨dj, hdj⟩ : ∃ y, y = ds[k] := ⟨_, rfl⟩
      have HDJ := Lib.hid hdj
      rw [← hdj] at HIN
      rw [← hdj] at m1 m2 hdk hokj HSV HSZV HWV
      obtain ⟨sz, hsz⟩ : ∃ y, y = dj.size := ⟨_, rfl⟩
      obtain ⟨nw, hnw⟩ : ∃ y, y = dj.waits.length := ⟨_, rfl⟩
      rw [← hsz] at m1 HSZV
      rw [← hnw] at m2 HWV
      have HSZ := Lib.hid hsz
      have HNW := Lib.hid hnw
      have hszb : 1 ≤ sz ∧ sz ≤ 4096 := by rw [hsz]; exact ⟨hokj.2.1, hokj.2.2.1⟩
      have hnwb : nw ≤ 1000000 := by rw [hnw]; omega
      obtain ⟨hs1, hs2⟩ := hszb
      have hba : Below wr.heap.size wr (wr.alloc (.cells #[.slice A1 sz c1, .slice A2 nw c2] 85)) := (Below.refl _ _).alloc (Nat.le_refl _) _
      have hrr0 : Rdv (wr.alloc (.cells #[.slice A1 sz c1, .slice A2 nw c2] 85)) A1 dj.size 64 (rowV Sx.vals (secs dj)) := (RowAt.below hdk.sec hba).row
      rw [← hsz] at hrr0
      have HM := Lib.hid (And.intro (HB1.out.trans (hba.mono HB1.out.size)) (And.intro (heap_alloc_new wr (.cells #[.slice A1 sz c1, .slice A2 nw c2] 85)) hrr0))
      clear hba hc hdk hokj hdj hsz hnw HB1 hrr0
      go_upto_region 4 with fail
      clear m1 m2
      obtain ⟨u, hu⟩ : ∃ y, y = wr.heap.size := ⟨_, rfl⟩
      rw [← hu] at HM ⊢
      clear hu
      revert HM
      generalize World.alloc wr _ = wz
      intro HM
      have hul : u < wz.heap.size := (Array.getElem?_eq_some_iff.1 HM.out.2.1).1
      have d0 := (cell_of_row _ _ 0 _ _ (0, 0) HM.out.2.1).trans rfl
      have HBZ := Lib.hid (show ∀ W, Below wz.heap.size wz W → Below w1.heap.size w1 W from fun W hb => HM.out.1.trans (hb.mono HM.out.1.size))
      have HUZ := Lib.hid (show ∀ W, Below wz.heap.size wz W → W.heap[u]? = some (.cells #[.slice A1 sz c1, .slice A2 nw c2] 85 (0, 0)) from fun W hb => (hb.block u hul).trans HM.out.2.1)
      go_wp2_with fail
      clear d0
      go_loopw [25] (fun i wr => ∃ i' : Nat, i = .int .i64 (i' : Int) ∧ i' ≤ sz ∧ Below wz.heap.size wz wr) (fun i _ => sz - (intOf i).toNat)
      case atStart => exact ⟨0, rfl, by omega, Below.refl _ _⟩
      case round =>
        obtain ⟨i, rfl, hi, hb⟩ := hrel
        have HB2 := Lib.hid hb
        clear hb
        by_cases hlt2 : i < sz
        · obtain ⟨bs, os, rfl, hcs⟩ := (HM.out.2.2.ext (fun q hq => HB2.out.cell hq)).2 (by omega)
          have hil : i < (secs dj).length := by rw [secs_length]; have := HSZ.out; omega
          have ha := at_row Sx.vlen hcs i hil
          rw [secs_get] at ha
          obtain ⟨x, hx⟩ : ∃ x, x = dj.sure (i : Int) := ⟨_, rfl⟩
          rw [← hx] at ha
          have HX := Lib.hid (show sureV ds (k : Int) (i : Int) = x by rw [HSV.out i (by have := HSZ.out; omega), hx])
          have HLD := Lib.hid (load_sx ha)
          have hst := SBlk.store (w := wr.alloc (.cells Sx.zero.arr 50)) (z := Sx.zero) (heap_alloc_new wr _) x
          rw [World.setRow_alloc_new, ← zero_arr] at hst
          have hba : Below wr.heap.size wr (wr.alloc (.cells x.arr 50)) := (Below.refl _ _).alloc (Nat.le_refl _) _
          have HM2 := Lib.hid (And.intro (HB2.out.trans (hba.mono HB2.out.size)) (show SBlk (wr.alloc (.cells x.arr 50)) wr.heap.size x from heap_alloc_new wr _))
          clear ha hcs hx hba hil HB2
          go_upto_region 7 with (first | (refine wpList_load_val rfl (.tmp 28) rfl rfl x.val HLD.out ?_) | (refine wpList_store_val rfl (.tmp 8) (.tmp 29) rfl rfl x.val rfl hst ?_))
          clear hst HLD
          obtain ⟨t, ht⟩ : ∃ y, y = wr.heap.size := ⟨_, rfl⟩
          rw [← ht] at HM2 ⊢
          clear ht
          revert HM2
          generalize World.alloc wr _ = wy
          intro HM2
          have HA := Lib.hid (show ∀ W2, Below wy.drew.heap.size wy.drew W2 → Below wz.heap.size wz W2 ∧ SBlk W2 t x from fun W2 hw => by
            have hb2 : Below wy.heap.size wy W2 := (Below.refl _ wy).drew.trans hw
            exact ⟨HM2.out.1.trans (hb2.mono HM2.out.1.size), HM2.out.2.below hb2⟩)
          refine wp_region_noPanic ?_
          refine wp_region_abs 5 140 [
            .is (.pointer (some ⟨g, 0, none⟩)),
            .is (.int .i64 (k : Int)),
            .is (.int .i64 (i : Int)),
            .is x.val,
            .is x.val]
            [30, 31, 32, 33, 34]
            [[], [], [], [0, 1, 2], []] (by kernel_rfl) (by rfl) rfl rfl (by kernel_rfl) (fun _ _ _ _ h => h.elim) ?_ ?_
          · refine ⟨?_, ?_, ?_, ?_, ?_, trivial⟩
            · intro W2 hw K hK
              go_simp
              exact hK _ _ rfl (Below.refl _ _)
            · intro W2 hw K hK
              go_simp
              exact hK _ _ rfl (Below.refl _ _)
            · intro W2 hw K hK
              go_simp
              exact hK _ _ rfl (Below.refl _ _)
            · intro W2 hw K hK
              obtain ⟨a0, _⟩ := HA.out W2 hw
              go_simp
              refine Calls.mono (st_sure_gen (HS.out W2 (HBZ.out W2 a0)) (k : Int) (i : Int) hl) ?_
              rintro e w' ⟨rfl, hb9⟩
              exact hK _ _ (congrArg Sx.val HX.out) hb9
            · intro W2 hw K hK
              obtain ⟨_, a0⟩ := HA.out W2 hw
              exact (arm_load (b := t) (off := 0) (.tmp 8) rfl rfl (by kernel_rfl) x.val a0.load (hK _ _ rfl (Below.refl _ _))).out
          · intro W2 hw2
            simp only [Behind, List.drop, Act.put, List.setIfInBounds_toArray, List.set_cons_zero, List.set_cons_succ]
            obtain ⟨hbz2, _⟩ := HA.out W2 hw2
            have HB3 := Lib.hid hbz2
            have he1 := neq_sx x x W2
            rw [decide_eq_true rfl] at he1
            have he2 := guard_sx .neq (.tmp 33) (.tmp 34) x x W2
            clear hw2 hbz2 HA HM2
            have HRD := Lib.hid (st_read_gen (HS.out W2 (HBZ.out W2 HB3.out)) (k : Int) (i : Int) hl (by omega))
            have hrv : readV p ds (k : Int) (i : Int) = (readM dj (i : Int), 0) := by
              unfold readV
              rw [if_neg (by rw [HG.out]; decide), if_neg (by rw [HIN.out i (by have := HSZ.out; omega)]; decide), Int.toNat_natCast, List.getElem?_eq_getElem hj, ← HDJ.out]
            have HRV := Lib.hid hrv
            rw [hrv] at HRD
            obtain ⟨y, hy⟩ : ∃ y, y = readM dj (i : Int) := ⟨_, rfl⟩
            have HY := Lib.hid hy
            rw [← hy, show eV 0 = .nilIface from rfl] at HRD
            clear hrv hy
            go_wp2_with fail
            refine NoPanic.normal ?_
            clear he1 he2
            go_wp2_with fail
            refine Calls.mono HRD.out ?_
            rintro e w3 ⟨rfl, b3⟩
            have hst := SBlk.store (w := w3.alloc (.cells Sx.zero.arr 50)) (z := Sx.zero) (heap_alloc_new w3 _) y
            rw [World.setRow_alloc_new, ← zero_arr] at hst
            have hba : Below w3.heap.size w3 (w3.alloc (.cells y.arr 50)) := (Below.refl _ _).alloc (Nat.le_refl _) _
            have hb3 := HB3.out.trans (b3.mono HB3.out.size)
            have HM3 := Lib.hid (And.intro (hb3.trans (hba.mono hb3.size)) (show SBlk (w3.alloc (.cells y.arr 50)) w3.heap.size y from heap_alloc_new w3 _))
            clear b3 hba hb3 HRD HB3
            go_upto_region 10 with (refine wpList_store_val rfl (.tmp 9) (.tmp 41) rfl rfl y.val rfl hst ?_)
            clear hst
            obtain ⟨t9, ht9⟩ : ∃ u, u = w3.heap.size := ⟨_, rfl⟩
            rw [← ht9] at HM3 ⊢
            clear ht9
            revert HM3
            generalize World.alloc w3 _ = w4
            intro HM3
            have q4 := (cell_of_row _ _ 4 _ _ (0, 0) (HBX.out w4 (HBZ.out w4 HM3.out.1))).trans rfl
            have q0 := (cell_of_row _ _ 0 _ _ (0, 0) (HBX.out w4 (HBZ.out w4 HM3.out.1))).trans rfl
            have q1 := (cell_of_row _ _ 1 _ _ (0, 0) (HBX.out w4 (HBZ.out w4 HM3.out.1))).trans rfl
            have q2 := (cell_of_row _ _ 2 _ _ (0, 0) (HBX.out w4 (HBZ.out w4 HM3.out.1))).trans rfl
            have q3 := (cell_of_row _ _ 3 _ _ (0, 0) (HBX.out w4 (HBZ.out w4 HM3.out.1))).trans rfl
            have hrr := refread_any (HR.out w4 (HBZ.out w4 HM3.out.1)) p left (k : Int) (i : Int) hl (fun d hd => by have := (HOK.out d hd).1; omega)
            unfold rsV at hrr
            rw [HRV.out, ← HN.out, HG.out] at hrr
            rw [← HY.out] at hrr
            have HRR := Lib.hid hrr
            clear hrr
            go_wp2_with fail
            refine Calls.mono HRR.out ?_
            rintro e w5 ⟨rfl, b5⟩
            have hst := SBlk.store (w := w5.alloc (.cells Sx.zero.arr 50)) (z := Sx.zero) (heap_alloc_new w5 _) y
            rw [World.setRow_alloc_new, ← zero_arr] at hst
            have hba : Below w5.heap.size w5 (w5.alloc (.cells y.arr 50)) := (Below.refl _ _).alloc (Nat.le_refl _) _
            have hb5 := HM3.out.1.trans (b5.mono HM3.out.1.size)
            have HM5 := Lib.hid (And.intro (hb5.trans (hba.mono hb5.size)) (And.intro ((HM3.out.2.below b5).below hba) (show SBlk (w5.alloc (.cells y.arr 50)) w5.heap.size y from heap_alloc_new w5 _)))
            clear b5 hba hb5 HRR HM3 q0 q1 q2 q3 q4
            go_upto_region 12 with (refine wpList_store_val rfl (.tmp 11) (.tmp 51) rfl rfl y.val rfl hst ?_)
            clear hst
            obtain ⟨ta, hta⟩ : ∃ u, u = w5.heap.size := ⟨_, rfl⟩
            rw [← hta] at HM5 ⊢
            clear hta
            revert HM5
            generalize World.alloc w5 _ = w6
            intro HM5
            have HL1 := HM5.out.2.1.load
            have HL2 := HM5.out.2.2.load
            have he1 := neq_sx y y w6
            rw [decide_eq_true rfl] at he1
            have he2 := guard_sx .neq (.tmp 56) (.tmp 57) y y w6
            go_wp2_with (first | (refine wpList_load_val (by rfl) (.tmp 9) rfl rfl y.val HL1 ?_) | (refine wpList_load_val (by rfl) (.tmp 11) rfl rfl y.val HL2 ?_))
            go_roundw
            case rel => exact ⟨i + 1, by go_num, by omega, HM5.out.1⟩
            case measure => simp [intOf]; omega
        · obtain rfl : i = sz := by omega
          have HB9 := Lib.hid HB2.out
          have HSO1 := Lib.hid (show sureV ds (k : Int) (-1) = Sx.zero from sureV_out (by rw [hasB_nat ds k hj]; rfl))
          have HSO2 := Lib.hid (show sureV ds (k : Int) (i : Int) = Sx.zero from sureV_out (by rw [hasB_nat ds k hj, ← HDJ.out, ← HSZ.out, decide_eq_false (show ¬ (i : Int) < (i : Int) by omega), Bool.and_false]))
          have d0 := (cell_of_row _ _ 0 _ _ (0, 0) (HUZ.out wr HB2.out)).trans rfl
          clear d0
          go_upto_region 15 with fail
          have HA := Lib.hid (show ∀ W2, Below wr.drew.heap.size wr.drew W2 → Below w1.heap.size w1 W2 ∧ W2.heap[u]? = some (.cells #[.slice A1 i c1, .slice A2 nw c2] 85 (0, 0)) from fun W2 hw => by
            have hb2 : Below wr.heap.size wr W2 := (Below.refl _ wr).drew.trans hw
            have hb3 := HB9.out.trans (hb2.mono HB9.out.size)
            exact ⟨HBZ.out W2 hb3, HUZ.out W2 hb3⟩)
          clear HB2
          refine wp_region_noPanic ?_
          refine wp_region_abs 32 140 [
            .is (.pointer (some ⟨g, 0, none⟩)),
            .is (.int .i64 (k : Int)),
            .is (.int .i64 (i : Int)),
            .is (.pointer (some ⟨u, 0, none⟩)),
            .is (.slice A1 i c1),
            .is (.int .i64 (i : Int)),
            .is (.bool false),
            .is (.bool false),
            .is (.pointer (some ⟨g, 0, none⟩)),
            .is (.int .i64 (k : Int)),
            .is (.int .i64 (nw : Int)),
            .is (.pointer (some ⟨u, 1, none⟩)),
            .is (.slice A2 nw c2),
            .is (.int .i64 (nw : Int)),
            .is (.bool false),
            .is (.bool false),
            .is (.bool false),
            .is (.pointer (some ⟨g, 0, none⟩)),
            .is (.int .i64 (k : Int)),
            .is Sx.zero.val,
            .is Sx.zero.val,
            .is (.bool false),
            .is (.bool false),
            .is (.bool false),
            .is (.pointer (some ⟨g, 0, none⟩)),
            .is (.int .i64 (k : Int)),
            .is (.pointer (some ⟨u, 0, none⟩)),
            .is (.slice A1 i c1),
            .is (.int .i64 (i : Int)),
            .is Sx.zero.val,
            .is Sx.zero.val,
            .is (.bool false)]
            [61, 62, 63, 64, 65, 66, 67, 68, 69, 70, 71, 72, 73, 74, 75, 76, 77, 78, 79, 80, 81, 82, 83, 84, 85, 86, 87, 88, 89, 90, 91, 92]
            [[], [], [0, 1], [], [3], [4], [2, 5], [6], [7], [7], [8, 9, 7], [7], [11, 7], [12, 7], [10, 13, 7], [7, 14], [15], [16], [16], [17, 18, 16], [16], [19, 20, 16], [16, 21], [22], [23], [23], [23], [26, 23], [27, 23], [24, 25, 28, 23], [23], [29, 30, 23]] (by kernel_rfl) (by rfl) rfl rfl (by kernel_rfl) (fun _ _ _ _ h => h.elim) ?_ ?_
          · refine ⟨?_, ?_, ?_, ?_, ?_, ?_, ?_, ?_, ?_, ?_, ?_, ?_, ?_, ?_, ?_, ?_, ?_, ?_, ?_, ?_, ?_, ?_, ?_, ?_, ?_, ?_, ?_, ?_, ?_, ?_, ?_, ?_, trivial⟩
            · intro W2 hw K hK
              go_simp
              exact hK _ _ rfl (Below.refl _ _)
            · intro W2 hw K hK
              go_simp
              exact hK _ _ rfl (Below.refl _ _)
            · intro W2 hw K hK
              obtain ⟨a0, _⟩ := HA.out W2 hw
              go_simp
              refine Calls.mono (st_size_gen (HS.out W2 a0) (k : Int) hl) ?_
              rintro e w' ⟨rfl, rfl⟩
              exact hK _ _ (by rw [HSZV.out]; rfl) (Below.refl _ _)
            · intro W2 hw K hK
              go_simp
              exact hK _ _ rfl (Below.refl _ _)
            · intro W2 hw K hK
              obtain ⟨_, a0⟩ := HA.out W2 hw
              have x0 := (cell_of_row _ _ 0 _ _ (0, 0) a0).trans rfl
              have x1 := (cell_of_row _ _ 1 _ _ (0, 0) a0).trans rfl
              go_simp
              exact hK _ _ rfl (Below.refl _ _)
            · intro W2 hw K hK
              go_simp
              exact hK _ _ rfl (Below.refl _ _)
            · intro W2 hw K hK
              go_simp
              exact hK _ _ rfl (Below.refl _ _)
            · intro W2 hw K hK
              go_simp
              exact hK _ _ rfl (Below.refl _ _)
            · intro W2 hw K hK
              go_simp
              exact hK _ _ rfl (Below.refl _ _)
            · intro W2 hw K hK
              go_simp
              exact hK _ _ rfl (Below.refl _ _)
            · intro W2 hw K hK
              obtain ⟨a0, _⟩ := HA.out W2 hw
              go_simp
              refine Calls.mono (st_waiting_gen (HS.out W2 a0) (k : Int) hl) ?_
              rintro e w' ⟨rfl, rfl⟩
              exact hK _ _ (by rw [HWV.out]; rfl) (Below.refl _ _)
            · intro W2 hw K hK
              go_simp
              exact hK _ _ rfl (Below.refl _ _)
            · intro W2 hw K hK
              obtain ⟨_, a0⟩ := HA.out W2 hw
              have x0 := (cell_of_row _ _ 0 _ _ (0, 0) a0).trans rfl
              have x1 := (cell_of_row _ _ 1 _ _ (0, 0) a0).trans rfl
              go_simp
              exact hK _ _ rfl (Below.refl _ _)
            · intro W2 hw K hK
              go_simp
              exact hK _ _ rfl (Below.refl _ _)
            · intro W2 hw K hK
              go_simp
              exact hK _ _ rfl (Below.refl _ _)
            · intro W2 hw K hK
              go_simp
              exact hK _ _ rfl (Below.refl _ _)
            · intro W2 hw K hK
              go_simp
              exact hK _ _ rfl (Below.refl _ _)
            · intro W2 hw K hK
              go_simp
              exact hK _ _ rfl (Below.refl _ _)
            · intro W2 hw K hK
              go_simp
              exact hK _ _ rfl (Below.refl _ _)
            · intro W2 hw K hK
              obtain ⟨a0, _⟩ := HA.out W2 hw
              go_simp
              refine Calls.mono (st_sure_gen (HS.out W2 a0) (k : Int) (-1) hl) ?_
              rintro e w' ⟨rfl, hb9⟩
              exact hK _ _ (congrArg Sx.val HSO1.out) hb9
            · intro W2 hw K hK
              go_simp
              exact hK _ _ (congrArg Value.agg zero_arr) (Below.refl _ _)
            · intro W2 hw K hK
              have he1 := neq_sx Sx.zero Sx.zero W2
              rw [decide_eq_true rfl] at he1
              have he2 := guard_sx .neq (.tmp 80) (.tmp 81) Sx.zero Sx.zero W2
              go_simp
              exact hK _ _ rfl (Below.refl _ _)
            · intro W2 hw K hK
              go_simp
              exact hK _ _ rfl (Below.refl _ _)
            · intro W2 hw K hK
              go_simp
              exact hK _ _ rfl (Below.refl _ _)
            · intro W2 hw K hK
              go_simp
              exact hK _ _ rfl (Below.refl _ _)
            · intro W2 hw K hK
              go_simp
              exact hK _ _ rfl (Below.refl _ _)
            · intro W2 hw K hK
              go_simp
              exact hK _ _ rfl (Below.refl _ _)
            · intro W2 hw K hK
              obtain ⟨_, a0⟩ := HA.out W2 hw
              have x0 := (cell_of_row _ _ 0 _ _ (0, 0) a0).trans rfl
              have x1 := (cell_of_row _ _ 1 _ _ (0, 0) a0).trans rfl
              go_simp
              exact hK _ _ rfl (Below.refl _ _)
            · intro W2 hw K hK
              go_simp
              exact hK _ _ rfl (Below.refl _ _)
            · intro W2 hw K hK
              obtain ⟨a0, _⟩ := HA.out W2 hw
              go_simp
              refine Calls.mono (st_sure_gen (HS.out W2 a0) (k : Int) ((i : Int)) hl) ?_
              rintro e w' ⟨rfl, hb9⟩
              exact hK _ _ (congrArg Sx.val HSO2.out) hb9
            · intro W2 hw K hK
              go_simp
              exact hK _ _ (congrArg Value.agg zero_arr) (Below.refl _ _)
            · intro W2 hw K hK
              have he1 := neq_sx Sx.zero Sx.zero W2
              rw [decide_eq_true rfl] at he1
              have he2 := guard_sx .neq (.tmp 90) (.tmp 91) Sx.zero Sx.zero W2
              go_simp
              exact hK _ _ rfl (Below.refl _ _)
          · intro W2 hw2
            simp only [Behind, List.drop, Act.put, List.setIfInBounds_toArray, List.set_cons_zero, List.set_cons_succ]
            have HBE := Lib.hid (HA.out W2 hw2).1
            clear hw2 HA HB9
            go_wp2_with fail
            refine NoPanic.normal ?_
            go_wp2_with fail
            go_roundw
            case rel => exact ⟨k + 1, by go_num, by omega, HBE.out⟩
            case measure => simp [intOf]; omega
    · obtain rfl : k = N := by omega
      have q0 := (cell_of_row _ _ 0 _ _ (0, 0) (HBX.out wr HB1.out)).trans rfl
      have HOU := Lib.hid (show ∀ i : Int, hasB ds (k : Int) i = false from fun i => by rw [HN.out]; exact hasB_many ds i)
      have HWA := Lib.hid (HB.out.trans (HB1.out.mono HB.out.size))
      go_upto_region 19 with fail
      clear q0
      have HA := Lib.hid (show ∀ W2, Below wr.drew.heap.size wr.drew W2 → Below w1.heap.size w1 W2 ∧ W2.heap[z]? = some (.cells #[.slice A k c, .int .i64 (p.steps : Int), .int .i64 left, .bool p.ia, .bool false] 33 (0, 0)) from fun W2 hw => by
        have hb2 : Below wr.heap.size wr W2 := (Below.refl _ wr).drew.trans hw
        have hb3 := HB1.out.trans (hb2.mono HB1.out.size)
        exact ⟨hb3, HBX.out W2 hb3⟩)
      refine wp_region_noPanic ?_
      refine wp_region_abs 42 140 [
        .is (.pointer (some ⟨g, 0, none⟩)),
        .is (.int .i64 (k : Int)),
        .is (.int .i64 (k : Int)),
        .is (.bool true),
        .is (.bool true),
        .is (.pointer (some ⟨g, 0, none⟩)),
        .is (.int .i64 (p.steps : Int)),
        .is (.pointer (some ⟨z, 1, none⟩)),
        .is (.int .i64 (p.steps : Int)),
        .is (.bool true),
        .is (.bool true),
        .is (.bool true),
        .is (.pointer (some ⟨g, 0, none⟩)),
        .is (.bool false),
        .is (.pointer (some ⟨z, 4, none⟩)),
        .is (.bool false),
        .is (.bool true),
        .is (.bool true),
        .is (.bool true),
        .is (.pointer (some ⟨g, 0, none⟩)),
        .is (.int .i64 0),
        .is (.bool true),
        .is (.bool true),
        .is (.bool true),
        .is (.pointer (some ⟨g, 0, none⟩)),
        .is (.int .i64 (k : Int)),
        .is (.int .i64 0),
        .is (.bool true),
        .is (.bool true),
        .is (.bool true),
        .is (.pointer (some ⟨g, 0, none⟩)),
        .is (.int .i64 (k : Int)),
        .is (.int .i64 0),
        .is (.bool true),
        .is (.bool true),
        .is (.bool true),
        .is (.pointer (some ⟨g, 0, none⟩)),
        .is (.int .i64 (k : Int)),
        .is Sx.zero.val,
        .is Sx.zero.val,
        .is (.bool true),
        .is (.bool true)]
        [98, 99, 100, 101, 102, 103, 104, 105, 106, 107, 108, 109, 110, 111, 112, 113, 114, 115, 116, 117, 118, 119, 120, 121, 122, 123, 124, 125, 126, 127, 128, 129, 130, 131, 132, 133, 134, 135, 136, 137, 138, 139]
        [[], [0], [], [1, 2], [3], [4], [5, 4], [4], [7, 4], [6, 8, 4], [4, 9], [10], [11], [12, 11], [11], [14, 11], [13, 15, 11], [11, 16], [17], [18], [19, 18], [20, 18], [18, 21], [22], [23], [23], [24, 25, 23], [26, 23], [23, 27], [28], [29], [29], [30, 31, 29], [32, 29], [29, 33], [34], [35], [35], [36, 37, 35], [35], [38, 39, 35], [35, 40]] (by kernel_rfl) (by rfl) rfl rfl (by kernel_rfl) (fun _ _ _ _ h => h.elim) ?_ ?_
      · refine ⟨?_, ?_, ?_, ?_, ?_, ?_, ?_, ?_, ?_, ?_, ?_, ?_, ?_, ?_, ?_, ?_, ?_, ?_, ?_, ?_, ?_, ?_, ?_, ?_, ?_, ?_, ?_, ?_, ?_, ?_, ?_, ?_, ?_, ?_, ?_, ?_, ?_, ?_, ?_, ?_, ?_, ?_, trivial⟩
        · intro W2 hw K hK
          go_simp
          exact hK _ _ rfl (Below.refl _ _)
        · intro W2 hw K hK
          obtain ⟨a0, _⟩ := HA.out W2 hw
          go_simp
          refine Calls.mono (st_many (HS.out W2 a0) hl) ?_
          rintro e w' ⟨rfl, rfl⟩
          exact hK _ _ (by rw [← HN.out]; rfl) (Below.refl _ _)
        · intro W2 hw K hK
          go_simp
          exact hK _ _ rfl (Below.refl _ _)
        · intro W2 hw K hK
          go_simp
          exact hK _ _ rfl (Below.refl _ _)
        · intro W2 hw K hK
          go_simp
          exact hK _ _ rfl (Below.refl _ _)
        · intro W2 hw K hK
          go_simp
          exact hK _ _ rfl (Below.refl _ _)
        · intro W2 hw K hK
          obtain ⟨a0, _⟩ := HA.out W2 hw
          go_simp
          refine Calls.mono (st_steps (HS.out W2 a0)) ?_
          rintro e w' ⟨rfl, rfl⟩
          exact hK _ _ (rfl) (Below.refl _ _)
        · intro W2 hw K hK
          go_simp
          exact hK _ _ rfl (Below.refl _ _)
        · intro W2 hw K hK
          obtain ⟨_, a0⟩ := HA.out W2 hw
          have x1 := (cell_of_row _ _ 1 _ _ (0, 0) a0).trans rfl
          have x4 := (cell_of_row _ _ 4 _ _ (0, 0) a0).trans rfl
          go_simp
          exact hK _ _ rfl (Below.refl _ _)
        · intro W2 hw K hK
          go_simp
          exact hK _ _ rfl (Below.refl _ _)
        · intro W2 hw K hK
          go_simp
          exact hK _ _ rfl (Below.refl _ _)
        · intro W2 hw K hK
          go_simp
          exact hK _ _ rfl (Below.refl _ _)
        · intro W2 hw K hK
          go_simp
          exact hK _ _ rfl (Below.refl _ _)
        · intro W2 hw K hK
          obtain ⟨a0, _⟩ := HA.out W2 hw
          go_simp
          refine Calls.mono (st_down (HS.out W2 a0)) ?_
          rintro e w' ⟨rfl, rfl⟩
          exact hK _ _ (by rw [HG.out]; rfl) (Below.refl _ _)
        · intro W2 hw K hK
          go_simp
          exact hK _ _ rfl (Below.refl _ _)
        · intro W2 hw K hK
          obtain ⟨_, a0⟩ := HA.out W2 hw
          have x1 := (cell_of_row _ _ 1 _ _ (0, 0) a0).trans rfl
          have x4 := (cell_of_row _ _ 4 _ _ (0, 0) a0).trans rfl
          go_simp
          exact hK _ _ rfl (Below.refl _ _)
        · intro W2 hw K hK
          go_simp
          exact hK _ _ rfl (Below.refl _ _)
        · intro W2 hw K hK
          go_simp
          exact hK _ _ rfl (Below.refl _ _)
        · intro W2 hw K hK
          go_simp
          exact hK _ _ rfl (Below.refl _ _)
        · intro W2 hw K hK
          go_simp
          exact hK _ _ rfl (Below.refl _ _)
        · intro W2 hw K hK
          obtain ⟨a0, _⟩ := HA.out W2 hw
          go_simp
          refine Calls.mono (st_size_gen (HS.out W2 a0) (-1) hl) ?_
          rintro e w' ⟨rfl, rfl⟩
          exact hK _ _ (by rw [sizeV_out (hasB_neg ds 0)]; rfl) (Below.refl _ _)
        · intro W2 hw K hK
          go_simp
          exact hK _ _ rfl (Below.refl _ _)
        · intro W2 hw K hK
          go_simp
          exact hK _ _ rfl (Below.refl _ _)
        · intro W2 hw K hK
          go_simp
          exact hK _ _ rfl (Below.refl _ _)
        · intro W2 hw K hK
          go_simp
          exact hK _ _ rfl (Below.refl _ _)
        · intro W2 hw K hK
          go_simp
          exact hK _ _ rfl (Below.refl _ _)
        · intro W2 hw K hK
          obtain ⟨a0, _⟩ := HA.out W2 hw
          go_simp
          refine Calls.mono (st_size_gen (HS.out W2 a0) (k : Int) hl) ?_
          rintro e w' ⟨rfl, rfl⟩
          exact hK _ _ (by rw [sizeV_out (HOU.out 0)]; rfl) (Below.refl _ _)
        · intro W2 hw K hK
          go_simp
          exact hK _ _ rfl (Below.refl _ _)
        · intro W2 hw K hK
          go_simp
          exact hK _ _ rfl (Below.refl _ _)
        · intro W2 hw K hK
          go_simp
          exact hK _ _ rfl (Below.refl _ _)
        · intro W2 hw K hK
          go_simp
          exact hK _ _ rfl (Below.refl _ _)
        · intro W2 hw K hK
          go_simp
          exact hK _ _ rfl (Below.refl _ _)
        · intro W2 hw K hK
          obtain ⟨a0, _⟩ := HA.out W2 hw
          go_simp
          refine Calls.mono (st_waiting_gen (HS.out W2 a0) (k : Int) hl) ?_
          rintro e w' ⟨rfl, rfl⟩
          exact hK _ _ (by rw [waitV_out (HOU.out 0)]; rfl) (Below.refl _ _)
        · intro W2 hw K hK
          go_simp
          exact hK _ _ rfl (Below.refl _ _)
        · intro W2 hw K hK
          go_simp
          exact hK _ _ rfl (Below.refl _ _)
        · intro W2 hw K hK
          go_simp
          exact hK _ _ rfl (Below.refl _ _)
        · intro W2 hw K hK
          go_simp
          exact hK _ _ rfl (Below.refl _ _)
        · intro W2 hw K hK
          go_simp
          exact hK _ _ rfl (Below.refl _ _)
        · intro W2 hw K hK
          obtain ⟨a0, _⟩ := HA.out W2 hw
          go_simp
          refine Calls.mono (st_sure_gen (HS.out W2 a0) (k : Int) 0 hl) ?_
          rintro e w' ⟨rfl, hb9⟩
          exact hK _ _ (congrArg Sx.val (sureV_out (HOU.out 0))) hb9
        · intro W2 hw K hK
          go_simp
          exact hK _ _ (congrArg Value.agg zero_arr) (Below.refl _ _)
        · intro W2 hw K hK
          have he1 := eql_sx Sx.zero Sx.zero W2
          rw [decide_eq_true rfl] at he1
          have he2 := guard_sx .eql (.tmp 136) (.tmp 137) Sx.zero Sx.zero W2
          go_simp
          exact hK _ _ rfl (Below.refl _ _)
        · intro W2 hw K hK
          go_simp
          exact hK _ _ rfl (Below.refl _ _)
      · intro W2 hw2
        simp only [Behind, List.drop, Act.put, List.setIfInBounds_toArray, List.set_cons_zero, List.set_cons_succ]
        have HBE := Lib.hid (HWA.out.trans (((Below.refl _ wr).drew.trans hw2).mono (by exact HWA.out.size)))
        clear hw2 HA HB1 HWA
        go_wp2_with fail
        refine NoPanic.normal ?_
        go_wp2_with fail
        go_ret
        exact ⟨rfl, HBE.out⟩
set_option maxHeartbeats 16000000 in
theorem stands_gone {w : World} {F X : Nat → Prop} {g : Nat} {p : Pw} {ds : List Dk} {K : Nat} {A : Option Addr} {c : Nat} {left : Int} (h : St w F g p ds K) (hr : RSet w X A c ds) (hok : OkN K ds) (hl : ds.length ≤ 1000) (hKb : K ≤ 1000000) (hps : p.steps ≤ K) (hg : p.gone = true) :
    Calls Try.prog 15 #[.pointer (some ⟨g, 0, none⟩), rsV A c ds p left] w fun e w' => e = .returned (.bool true) ∧ Below w.heap.size w w' := by
  have hb1 : Below w.heap.size w (w.alloc (.cells #[.slice A ds.length c, .int .i64 (p.steps : Int), .int .i64 left, .bool p.ia, .bool p.gone] 33)) := (Below.refl _ _).alloc (Nat.le_refl _) _
  obtain ⟨w1, hw1⟩ : ∃ w1, w1 = w.alloc (.cells #[.slice A ds.length c, .int .i64 (p.steps : Int), .int .i64 left, .bool p.ia, .bool p.gone] 33) := ⟨_, rfl⟩
  have k0 : w1.heap[w.heap.size]? = some (.cells #[.slice A ds.length c, .int .i64 (p.steps : Int), .int .i64 left, .bool p.ia, .bool p.gone] 33 (0, 0)) := by rw [hw1]; exact heap_alloc_new w _
  rw [← hw1] at hb1
  obtain ⟨N, hN⟩ : ∃ N, N = ds.length := ⟨_, rfl⟩
  obtain ⟨z, hz⟩ : ∃ z, z = w.heap.size := ⟨_, rfl⟩
  have HN := Lib.hid hN
  have HZ := Lib.hid hz
  have hzl : z < w1.heap.size := by rw [hz]; exact (Array.getElem?_eq_some_iff.1 k0).1
  -- what is known in each later world
  have HS := Lib.hid (show ∀ W, Below w1.heap.size w1 W → St W F g p ds K from fun W hb => (h.below hb1).below hb)
  have HR := Lib.hid (show ∀ W, Below w1.heap.size w1 W → RSet W X A c ds from fun W hb => (hr.below hb1).below hb)
  have HB := Lib.hid hb1
  have HOK := Lib.hid hok
  rw [← hN] at k0
  rw [← hz] at k0
  have HBX := Lib.hid (show ∀ W, Below w1.heap.size w1 W → W.heap[z]? = some (.cells #[.slice A N c, .int .i64 (p.steps : Int), .int .i64 left, .bool p.ia, .bool p.gone] 33 (0, 0)) from fun W hb => (hb.block z hzl).trans k0)
  unfold rsV
  rw [← hN, hg] at hw1
  rw [← hN, hg]
  rw [hg] at HBX k0
  have HG := Lib.hid hg
  clear h hr hok hb1 hN hg
  go_enter Try.func15, Try.ntmps15
  go_upto_region 1 with fail
  rw [← hw1, ← HZ.out]
  clear hw1 hz
  have q0 := (cell_of_row _ _ 0 _ _ (0, 0) k0).trans rfl
  clear k0
  go_wp2_with fail
  clear q0
  go_loopw [17] (fun i wr => ∃ k : Nat, i = .int .i64 (k : Int) ∧ k ≤ N ∧ Below w1.heap.size w1 wr) (fun i _ => N - (intOf i).toNat)
  case atStart => exact ⟨0, rfl, by omega, Below.refl _ _⟩
  case round =>
    obtain ⟨k, rfl, hk, hb⟩ := hrel
    have HB1 := Lib.hid hb
    clear hb
    by_cases hlt : k < N
    · have hj : k < ds.length := by have := HN.out; omega
      obtain ⟨b, off, rfl, hc⟩ := (HR.out wr HB1.out).cells (by omega)
      obtain ⟨A1, c1, A2, c2, m1, m2, hdk⟩ := hc k hj
      have hokj := HOK.out _ (List.getElem_mem hj)
      have HSV := Lib.hid (show ∀ i : Nat, i < ds[k].size → sureV ds (k : Int) (i : Int) = ds[k].sure (i : Int) from fun i hi => sureV_in hj i hi)
      have HSZV := Lib.hid (sizeV_in hj hokj.2.1)
      have HWV := Lib.hid (waitV_in hj hokj.2.1)
      have HIN := Lib.hid (show ∀ i : Nat, i < ds[k].size → hasB ds (k : Int) (i : Int) = true from fun i hi => by rw [hasB_nat ds k hj, decide_eq_true (by omega), decide_eq_true (by omega)]; rfl)
      obtain ⟨dj, hdj⟩ : ∃ y, y = ds[k] := ⟨_, rfl⟩
      have HDJ := Lib.hid hdj
      rw [← hdj] at HIN
      rw [← hdj] at m1 m2 hdk hokj HSV HSZV HWV
      obtain ⟨sz, hsz⟩ : ∃ y, y = dj.size := ⟨_, rfl⟩
      obtain ⟨nw, hnw⟩ : ∃ y, y = dj.waits.length := ⟨_, rfl⟩
      rw [← hsz] at m1 HSZV
      rw [← hnw] at m2 HWV
      have HSZ := Lib.hid hsz
      have HNW := Lib.hid hnw
      have hszb : 1 ≤ sz ∧ sz ≤ 4096 := by rw [hsz]; exact ⟨hokj.2.1, hokj.2.2.1⟩
      have hnwb : nw ≤ 1000000 := by rw [hnw]; omega
      obtain ⟨hs1, hs2⟩ := hszb
      have hba : Below wr.heap.size wr (wr.alloc (.cells #[.slice A1 sz c1, .slice A2 nw c2] 85)) := (Below.refl _ _).alloc (Nat.le_refl _) _
      have hrr0 : Rdv (wr.alloc (.cells #[.slice A1 sz c1, .slice A2 nw c2] 85)) A1 dj.size 64 (rowV Sx.vals (secs dj)) := (RowAt.below hdk.sec hba).row
      rw [← hsz] at hrr0
      have HM := Lib.hid (And.intro (HB1.out.trans (hba.mono HB1.out.size)) (And.intro (heap_alloc_new wr (.cells #[.slice A1 sz c1, .slice A2 nw c2] 85)) hrr0))
      clear hba hc hdk hokj hdj hsz hnw HB1 hrr0
      go_upto_region 4 with fail
      clear m1 m2
      obtain ⟨u, hu⟩ : ∃ y, y = wr.heap.size := ⟨_, rfl⟩
      rw [← hu] at HM ⊢
      clear hu
      revert HM
      generalize World.alloc wr _ = wz
      intro HM
      have hul : u < wz.heap.size := (Array.getElem?_eq_some_iff.1 HM.out.2.1).1
      have d0 := (cell_of_row _ _ 0 _ _ (0, 0) HM.out.2.1).trans rfl
      have HBZ := Lib.hid (show ∀ W, Below wz.heap.size wz W → Below w1.heap.size w1 W from fun W hb => HM.out.1.trans (hb.mono HM.out.1.size))
      have HUZ := Lib.hid (show ∀ W, Below wz.heap.size wz W → W.heap[u]? = some (.cells #[.slice A1 sz c1, .slice A2 nw c2] 85 (0, 0)) from fun W hb => (hb.block u hul).trans HM.out.2.1)
      go_wp2_with fail
      clear d0
      go_loopw [25] (fun i wr => ∃ i' : Nat, i = .int .i64 (i' : Int) ∧ i' ≤ sz ∧ Below wz.heap.size wz wr) (fun i _ => sz - (intOf i).toNat)
      case atStart => exact ⟨0, rfl, by omega, Below.refl _ _⟩
      case round =>
        obtain ⟨i, rfl, hi, hb⟩ := hrel
        have HB2 := Lib.hid hb
        clear hb
        by_cases hlt2 : i < sz
        · obtain ⟨bs, os, rfl, hcs⟩ := (HM.out.2.2.ext (fun q hq => HB2.out.cell hq)).2 (by omega)
          have hil : i < (secs dj).length := by rw [secs_length]; have := HSZ.out; omega
          have ha := at_row Sx.vlen hcs i hil
          rw [secs_get] at ha
          obtain ⟨x, hx⟩ : ∃ x, x = dj.sure (i : Int) := ⟨_, rfl⟩
          rw [← hx] at ha
          have HX := Lib.hid (show sureV ds (k : Int) (i : Int) = x by rw [HSV.out i (by have := HSZ.out; omega), hx])
          have HLD := Lib.hid (load_sx ha)
          have hst := SBlk.store (w := wr.alloc (.cells Sx.zero.arr 50)) (z := Sx.zero) (heap_alloc_new wr _) x
          rw [World.setRow_alloc_new, ← zero_arr] at hst
          have hba : Below wr.heap.size wr (wr.alloc (.cells x.arr 50)) := (Below.refl _ _).alloc (Nat.le_refl _) _
          have HM2 := Lib.hid (And.intro (HB2.out.trans (hba.mono HB2.out.size)) (show SBlk (wr.alloc (.cells x.arr 50)) wr.heap.size x from heap_alloc_new wr _))
          clear ha hcs hx hba hil HB2
          go_upto_region 7 with (first | (refine wpList_load_val rfl (.tmp 28) rfl rfl x.val HLD.out ?_) | (refine wpList_store_val rfl (.tmp 8) (.tmp 29) rfl rfl x.val rfl hst ?_))
          clear hst HLD
          obtain ⟨t, ht⟩ : ∃ y, y = wr.heap.size := ⟨_, rfl⟩
          rw [← ht] at HM2 ⊢
          clear ht
          revert HM2
          generalize World.alloc wr _ = wy
          intro HM2
          have HA := Lib.hid (show ∀ W2, Below wy.drew.heap.size wy.drew W2 → Below wz.heap.size wz W2 ∧ SBlk W2 t x from fun W2 hw => by
            have hb2 : Below wy.heap.size wy W2 := (Below.refl _ wy).drew.trans hw
            exact ⟨HM2.out.1.trans (hb2.mono HM2.out.1.size), HM2.out.2.below hb2⟩)
          refine wp_region_noPanic ?_
          refine wp_region_abs 5 140 [
            .is (.pointer (some ⟨g, 0, none⟩)),
            .is (.int .i64 (k : Int)),
            .is (.int .i64 (i : Int)),
            .is x.val,
            .is x.val]
            [30, 31, 32, 33, 34]
            [[], [], [], [0, 1, 2], []] (by kernel_rfl) (by rfl) rfl rfl (by kernel_rfl) (fun _ _ _ _ h => h.elim) ?_ ?_
          · refine ⟨?_, ?_, ?_, ?_, ?_, trivial⟩
            · intro W2 hw K hK
              go_simp
              exact hK _ _ rfl (Below.refl _ _)
            · intro W2 hw K hK
              go_simp
              exact hK _ _ rfl (Below.refl _ _)
            · intro W2 hw K hK
              go_simp
              exact hK _ _ rfl (Below.refl _ _)
            · intro W2 hw K hK
              obtain ⟨a0, _⟩ := HA.out W2 hw
              go_simp
              refine Calls.mono (st_sure_gen (HS.out W2 (HBZ.out W2 a0)) (k : Int) (i : Int) hl) ?_
              rintro e w' ⟨rfl, hb9⟩
              exact hK _ _ (congrArg Sx.val HX.out) hb9
            · intro W2 hw K hK
              obtain ⟨_, a0⟩ := HA.out W2 hw
              exact (arm_load (b := t) (off := 0) (.tmp 8) rfl rfl (by kernel_rfl) x.val a0.load (hK _ _ rfl (Below.refl _ _))).out
          · intro W2 hw2
            simp only [Behind, List.drop, Act.put, List.setIfInBounds_toArray, List.set_cons_zero, List.set_cons_succ]
            obtain ⟨hbz2, _⟩ := HA.out W2 hw2
            have HB3 := Lib.hid hbz2
            have he1 := neq_sx x x W2
            rw [decide_eq_true rfl] at he1
            have he2 := guard_sx .neq (.tmp 33) (.tmp 34) x x W2
            clear hw2 hbz2 HA HM2
            have HRD := Lib.hid (st_read_gen (HS.out W2 (HBZ.out W2 HB3.out)) (k : Int) (i : Int) hl (by omega))
            have hrv : readV p ds (k : Int) (i : Int) = (Sx.zero, 3) := by
              unfold readV
              rw [if_pos HG.out]
            rw [hrv] at HRD
            obtain ⟨y, hy⟩ : ∃ y, y = Sx.zero := ⟨_, rfl⟩
            obtain ⟨ev, hev⟩ : ∃ v, v = eV 3 := ⟨_, rfl⟩
            rw [← hy, ← hev] at HRD
            clear hrv hy hev
            go_wp2_with fail
            refine NoPanic.normal ?_
            clear he1 he2
            go_wp2_with fail
            refine Calls.mono HRD.out ?_
            rintro e w3 ⟨rfl, b3⟩
            have hst := SBlk.store (w := w3.alloc (.cells Sx.zero.arr 50)) (z := Sx.zero) (heap_alloc_new w3 _) y
            rw [World.setRow_alloc_new, ← zero_arr] at hst
            have hba : Below w3.heap.size w3 (w3.alloc (.cells y.arr 50)) := (Below.refl _ _).alloc (Nat.le_refl _) _
            have hb3 := HB3.out.trans (b3.mono HB3.out.size)
            have HM3 := Lib.hid (And.intro (hb3.trans (hba.mono hb3.size)) (show SBlk (w3.alloc (.cells y.arr 50)) w3.heap.size y from heap_alloc_new w3 _))
            clear b3 hba hb3 HRD HB3
            go_upto_region 10 with (refine wpList_store_val rfl (.tmp 9) (.tmp 41) rfl rfl y.val rfl hst ?_)
            clear hst
            obtain ⟨t9, ht9⟩ : ∃ u, u = w3.heap.size := ⟨_, rfl⟩
            rw [← ht9] at HM3 ⊢
            clear ht9
            revert HM3
            generalize World.alloc w3 _ = w4
            intro HM3
            have q4 := (cell_of_row _ _ 4 _ _ (0, 0) (HBX.out w4 (HBZ.out w4 HM3.out.1))).trans rfl
            go_wp2_with fail
            go_roundw
            case rel => exact ⟨i + 1, by go_num, by omega, HM3.out.1⟩
            case measure => simp [intOf]; omega
        · obtain rfl : i = sz := by omega
          have HB9 := Lib.hid HB2.out
          have HSO1 := Lib.hid (show sureV ds (k : Int) (-1) = Sx.zero from sureV_out (by rw [hasB_nat ds k hj]; rfl))
          have HSO2 := Lib.hid (show sureV ds (k : Int) (i : Int) = Sx.zero from sureV_out (by rw [hasB_nat ds k hj, ← HDJ.out, ← HSZ.out, decide_eq_false (show ¬ (i : Int) < (i : Int) by omega), Bool.and_false]))
          have d0 := (cell_of_row _ _ 0 _ _ (0, 0) (HUZ.out wr HB2.out)).trans rfl
          clear d0
          go_upto_region 15 with fail
          have HA := Lib.hid (show ∀ W2, Below wr.drew.heap.size wr.drew W2 → Below w1.heap.size w1 W2 ∧ W2.heap[u]? = some (.cells #[.slice A1 i c1, .slice A2 nw c2] 85 (0, 0)) from fun W2 hw => by
            have hb2 : Below wr.heap.size wr W2 := (Below.refl _ wr).drew.trans hw
            have hb3 := HB9.out.trans (hb2.mono HB9.out.size)
            exact ⟨HBZ.out W2 hb3, HUZ.out W2 hb3⟩)
          clear HB2
          refine wp_region_noPanic ?_
          refine wp_region_abs 32 140 [
            .is (.pointer (some ⟨g, 0, none⟩)),
            .is (.int .i64 (k : Int)),
            .is (.int .i64 (i : Int)),
            .is (.pointer (some ⟨u, 0, none⟩)),
            .is (.slice A1 i c1),
            .is (.int .i64 (i : Int)),
            .is (.bool false),
            .is (.bool false),
            .is (.pointer (some ⟨g, 0, none⟩)),
            .is (.int .i64 (k : Int)),
            .is (.int .i64 (nw : Int)),
            .is (.pointer (some ⟨u, 1, none⟩)),
            .is (.slice A2 nw c2),
            .is (.int .i64 (nw : Int)),
            .is (.bool false),
            .is (.bool false),
            .is (.bool false),
            .is (.pointer (some ⟨g, 0, none⟩)),
            .is (.int .i64 (k : Int)),
            .is Sx.zero.val,
            .is Sx.zero.val,
            .is (.bool false),
            .is (.bool false),
            .is (.bool false),
            .is (.pointer (some ⟨g, 0, none⟩)),
            .is (.int .i64 (k : Int)),
            .is (.pointer (some ⟨u, 0, none⟩)),
            .is (.slice A1 i c1),
            .is (.int .i64 (i : Int)),
            .is Sx.zero.val,
            .is Sx.zero.val,
            .is (.bool false)]
            [61, 62, 63, 64, 65, 66, 67, 68, 69, 70, 71, 72, 73, 74, 75, 76, 77, 78, 79, 80, 81, 82, 83, 84, 85, 86, 87, 88, 89, 90, 91, 92]
            [[], [], [0, 1], [], [3], [4], [2, 5], [6], [7], [7], [8, 9, 7], [7], [11, 7], [12, 7], [10, 13, 7], [7, 14], [15], [16], [16], [17, 18, 16], [16], [19, 20, 16], [16, 21], [22], [23], [23], [23], [26, 23], [27, 23], [24, 25, 28, 23], [23], [29, 30, 23]] (by kernel_rfl) (by rfl) rfl rfl (by kernel_rfl) (fun _ _ _ _ h => h.elim) ?_ ?_
          · refine ⟨?_, ?_, ?_, ?_, ?_, ?_, ?_, ?_, ?_, ?_, ?_, ?_, ?_, ?_, ?_, ?_, ?_, ?_, ?_, ?_, ?_, ?_, ?_, ?_, ?_, ?_, ?_, ?_, ?_, ?_, ?_, ?_, trivial⟩
            · intro W2 hw K hK
              go_simp
              exact hK _ _ rfl (Below.refl _ _)
            · intro W2 hw K hK
              go_simp
              exact hK _ _ rfl (Below.refl _ _)
            · intro W2 hw K hK
              obtain ⟨a0, _⟩ := HA.out W2 hw
              go_simp
              refine Calls.mono (st_size_gen (HS.out W2 a0) (k : Int) hl) ?_
              rintro e w' ⟨rfl, rfl⟩
              exact hK _ _ (by rw [HSZV.out]; rfl) (Below.refl _ _)
            · intro W2 hw K hK
              go_simp
              exact hK _ _ rfl (Below.refl _ _)
            · intro W2 hw K hK
              obtain ⟨_, a0⟩ := HA.out W2 hw
              have x0 := (cell_of_row _ _ 0 _ _ (0, 0) a0).trans rfl
              have x1 := (cell_of_row _ _ 1 _ _ (0, 0) a0).trans rfl
              go_simp
              exact hK _ _ rfl (Below.refl _ _)
            · intro W2 hw K hK
              go_simp
              exact hK _ _ rfl (Below.refl _ _)
            · intro W2 hw K hK
              go_simp
              exact hK _ _ rfl (Below.refl _ _)
            · intro W2 hw K hK
              go_simp
              exact hK _ _ rfl (Below.refl _ _)
            · intro W2 hw K hK
              go_simp
              exact hK _ _ rfl (Below.refl _ _)
            · intro W2 hw K hK
              go_simp
              exact hK _ _ rfl (Below.refl _ _)
            · intro W2 hw K hK
              obtain ⟨a0, _⟩ := HA.out W2 hw
              go_simp
              refine Calls.mono (st_waiting_gen (HS.out W2 a0) (k : Int) hl) ?_
              rintro e w' ⟨rfl, rfl⟩
              exact hK _ _ (by rw [HWV.out]; rfl) (Below.refl _ _)
            · intro W2 hw K hK
              go_simp
              exact hK _ _ rfl (Below.refl _ _)
            · intro W2 hw K hK
              obtain ⟨_, a0⟩ := HA.out W2 hw
              have x0 := (cell_of_row _ _ 0 _ _ (0, 0) a0).trans rfl
              have x1 := (cell_of_row _ _ 1 _ _ (0, 0) a0).trans rfl
              go_simp
              exact hK _ _ rfl (Below.refl _ _)
            · intro W2 hw K hK
              go_simp
              exact hK _ _ rfl (Below.refl _ _)
            · intro W2 hw K hK
              go_simp
              exact hK _ _ rfl (Below.refl _ _)
            · intro W2 hw K hK
              go_simp
              exact hK _ _ rfl (Below.refl _ _)
            · intro W2 hw K hK
              go_simp
              exact hK _ _ rfl (Below.refl _ _)
            · intro W2 hw K hK
              go_simp
              exact hK _ _ rfl (Below.refl _ _)
            · intro W2 hw K hK
              go_simp
              exact hK _ _ rfl (Below.refl _ _)
            · intro W2 hw K hK
              obtain ⟨a0, _⟩ := HA.out W2 hw
              go_simp
              refine Calls.mono (st_sure_gen (HS.out W2 a0) (k : Int) (-1) hl) ?_
              rintro e w' ⟨rfl, hb9⟩
              exact hK _ _ (congrArg Sx.val HSO1.out) hb9
            · intro W2 hw K hK
              go_simp
              exact hK _ _ (congrArg Value.agg zero_arr) (Below.refl _ _)
            · intro W2 hw K hK
              have he1 := neq_sx Sx.zero Sx.zero W2
              rw [decide_eq_true rfl] at he1
              have he2 := guard_sx .neq (.tmp 80) (.tmp 81) Sx.zero Sx.zero W2
              go_simp
              exact hK _ _ rfl (Below.refl _ _)
            · intro W2 hw K hK
              go_simp
              exact hK _ _ rfl (Below.refl _ _)
            · intro W2 hw K hK
              go_simp
              exact hK _ _ rfl (Below.refl _ _)
            · intro W2 hw K hK
              go_simp
              exact hK _ _ rfl (Below.refl _ _)
            · intro W2 hw K hK
              go_simp
              exact hK _ _ rfl (Below.refl _ _)
            · intro W2 hw K hK
              go_simp
              exact hK _ _ rfl (Below.refl _ _)
            · intro W2 hw K hK
              obtain ⟨_, a0⟩ := HA.out W2 hw
              have x0 := (cell_of_row _ _ 0 _ _ (0, 0) a0).trans rfl
              have x1 := (cell_of_row _ _ 1 _ _ (0, 0) a0).trans rfl
              go_simp
              exact hK _ _ rfl (Below.refl _ _)
            · intro W2 hw K hK
              go_simp
              exact hK _ _ rfl (Below.refl _ _)
            · intro W2 hw K hK
              obtain ⟨a0, _⟩ := HA.out W2 hw
              go_simp
              refine Calls.mono (st_sure_gen (HS.out W2 a0) (k : Int) ((i : Int)) hl) ?_
              rintro e w' ⟨rfl, hb9⟩
              exact hK _ _ (congrArg Sx.val HSO2.out) hb9
            · intro W2 hw K hK
              go_simp
              exact hK _ _ (congrArg Value.agg zero_arr) (Below.refl _ _)
            · intro W2 hw K hK
              have he1 := neq_sx Sx.zero Sx.zero W2
              rw [decide_eq_true rfl] at he1
              have he2 := guard_sx .neq (.tmp 90) (.tmp 91) Sx.zero Sx.zero W2
              go_simp
              exact hK _ _ rfl (Below.refl _ _)
          · intro W2 hw2
            simp only [Behind, List.drop, Act.put, List.setIfInBounds_toArray, List.set_cons_zero, List.set_cons_succ]
            have HBE := Lib.hid (HA.out W2 hw2).1
            clear hw2 HA HB9
            go_wp2_with fail
            refine NoPanic.normal ?_
            go_wp2_with fail
            go_roundw
            case rel => exact ⟨k + 1, by go_num, by omega, HBE.out⟩
            case measure => simp [intOf]; omega
    · obtain rfl : k = N := by omega
      have q0 := (cell_of_row _ _ 0 _ _ (0, 0) (HBX.out wr HB1.out)).trans rfl
      have HOU := Lib.hid (show ∀ i : Int, hasB ds (k : Int) i = false from fun i => by rw [HN.out]; exact hasB_many ds i)
      have HWA := Lib.hid (HB.out.trans (HB1.out.mono HB.out.size))
      go_upto_region 19 with fail
      clear q0
      have HA := Lib.hid (show ∀ W2, Below wr.drew.heap.size wr.drew W2 → Below w1.heap.size w1 W2 ∧ W2.heap[z]? = some (.cells #[.slice A k c, .int .i64 (p.steps : Int), .int .i64 left, .bool p.ia, .bool true] 33 (0, 0)) from fun W2 hw => by
        have hb2 : Below wr.heap.size wr W2 := (Below.refl _ wr).drew.trans hw
        have hb3 := HB1.out.trans (hb2.mono HB1.out.size)
        exact ⟨hb3, HBX.out W2 hb3⟩)
      refine wp_region_noPanic ?_
      refine wp_region_abs 42 140 [
        .is (.pointer (some ⟨g, 0, none⟩)),
        .is (.int .i64 (k : Int)),
        .is (.int .i64 (k : Int)),
        .is (.bool true),
        .is (.bool true),
        .is (.pointer (some ⟨g, 0, none⟩)),
        .is (.int .i64 (p.steps : Int)),
        .is (.pointer (some ⟨z, 1, none⟩)),
        .is (.int .i64 (p.steps : Int)),
        .is (.bool true),
        .is (.bool true),
        .is (.bool true),
        .is (.pointer (some ⟨g, 0, none⟩)),
        .is (.bool true),
        .is (.pointer (some ⟨z, 4, none⟩)),
        .is (.bool true),
        .is (.bool true),
        .is (.bool true),
        .is (.bool true),
        .is (.pointer (some ⟨g, 0, none⟩)),
        .is (.int .i64 0),
        .is (.bool true),
        .is (.bool true),
        .is (.bool true),
        .is (.pointer (some ⟨g, 0, none⟩)),
        .is (.int .i64 (k : Int)),
        .is (.int .i64 0),
        .is (.bool true),
        .is (.bool true),
        .is (.bool true),
        .is (.pointer (some ⟨g, 0, none⟩)),
        .is (.int .i64 (k : Int)),
        .is (.int .i64 0),
        .is (.bool true),
        .is (.bool true),
        .is (.bool true),
        .is (.pointer (some ⟨g, 0, none⟩)),
        .is (.int .i64 (k : Int)),
        .is Sx.zero.val,
        .is Sx.zero.val,
        .is (.bool true),
        .is (.bool true)]
        [98, 99, 100, 101, 102, 103, 104, 105, 106, 107, 108, 109, 110, 111, 112, 113, 114, 115, 116, 117, 118, 119, 120, 121, 122, 123, 124, 125, 126, 127, 128, 129, 130, 131, 132, 133, 134, 135, 136, 137, 138, 139]
        [[], [0], [], [1, 2], [3], [4], [5, 4], [4], [7, 4], [6, 8, 4], [4, 9], [10], [11], [12, 11], [11], [14, 11], [13, 15, 11], [11, 16], [17], [18], [19, 18], [20, 18], [18, 21], [22], [23], [23], [24, 25, 23], [26, 23], [23, 27], [28], [29], [29], [30, 31, 29], [32, 29], [29, 33], [34], [35], [35], [36, 37, 35], [35], [38, 39, 35], [35, 40]] (by kernel_rfl) (by rfl) rfl rfl (by kernel_rfl) (fun _ _ _ _ h => h.elim) ?_ ?_
      · refine ⟨?_, ?_, ?_, ?_, ?_, ?_, ?_, ?_, ?_, ?_, ?_, ?_, ?_, ?_, ?_, ?_, ?_, ?_, ?_, ?_, ?_, ?_, ?_, ?_, ?_, ?_, ?_, ?_, ?_, ?_, ?_, ?_, ?_, ?_, ?_, ?_, ?_, ?_, ?_, ?_, ?_, ?_, trivial⟩
        · intro W2 hw K hK
          go_simp
          exact hK _ _ rfl (Below.refl _ _)
        · intro W2 hw K hK
          obtain ⟨a0, _⟩ := HA.out W2 hw
          go_simp
          refine Calls.mono (st_many (HS.out W2 a0) hl) ?_
          rintro e w' ⟨rfl, rfl⟩
          exact hK _ _ (by rw [← HN.out]; rfl) (Below.refl _ _)
        · intro W2 hw K hK
          go_simp
          exact hK _ _ rfl (Below.refl _ _)
        · intro W2 hw K hK
          go_simp
          exact hK _ _ rfl (Below.refl _ _)
        · intro W2 hw K hK
          go_simp
          exact hK _ _ rfl (Below.refl _ _)
        · intro W2 hw K hK
          go_simp
          exact hK _ _ rfl (Below.refl _ _)
        · intro W2 hw K hK
          obtain ⟨a0, _⟩ := HA.out W2 hw
          go_simp
          refine Calls.mono (st_steps (HS.out W2 a0)) ?_
          rintro e w' ⟨rfl, rfl⟩
          exact hK _ _ (rfl) (Below.refl _ _)
        · intro W2 hw K hK
          go_simp
          exact hK _ _ rfl (Below.refl _ _)
        · intro W2 hw K hK
          obtain ⟨_, a0⟩ := HA.out W2 hw
          have x1 := (cell_of_row _ _ 1 _ _ (0, 0) a0).trans rfl
          have x4 := (cell_of_row _ _ 4 _ _ (0, 0) a0).trans rfl
          go_simp
          exact hK _ _ rfl (Below.refl _ _)
        · intro W2 hw K hK
          go_simp
          exact hK _ _ rfl (Below.refl _ _)
        · intro W2 hw K hK
          go_simp
          exact hK _ _ rfl (Below.refl _ _)
        · intro W2 hw K hK
          go_simp
          exact hK _ _ rfl (Below.refl _ _)
        · intro W2 hw K hK
          go_simp
          exact hK _ _ rfl (Below.refl _ _)
        · intro W2 hw K hK
          obtain ⟨a0, _⟩ := HA.out W2 hw
          go_simp
          refine Calls.mono (st_down (HS.out W2 a0)) ?_
          rintro e w' ⟨rfl, rfl⟩
          exact hK _ _ (by rw [HG.out]; rfl) (Below.refl _ _)
        · intro W2 hw K hK
          go_simp
          exact hK _ _ rfl (Below.refl _ _)
        · intro W2 hw K hK
          obtain ⟨_, a0⟩ := HA.out W2 hw
          have x1 := (cell_of_row _ _ 1 _ _ (0, 0) a0).trans rfl
          have x4 := (cell_of_row _ _ 4 _ _ (0, 0) a0).trans rfl
          go_simp
          exact hK _ _ rfl (Below.refl _ _)
        · intro W2 hw K hK
          go_simp
          exact hK _ _ rfl (Below.refl _ _)
        · intro W2 hw K hK
          go_simp
          exact hK _ _ rfl (Below.refl _ _)
        · intro W2 hw K hK
          go_simp
          exact hK _ _ rfl (Below.refl _ _)
        · intro W2 hw K hK
          go_simp
          exact hK _ _ rfl (Below.refl _ _)
        · intro W2 hw K hK
          obtain ⟨a0, _⟩ := HA.out W2 hw
          go_simp
          refine Calls.mono (st_size_gen (HS.out W2 a0) (-1) hl) ?_
          rintro e w' ⟨rfl, rfl⟩
          exact hK _ _ (by rw [sizeV_out (hasB_neg ds 0)]; rfl) (Below.refl _ _)
        · intro W2 hw K hK
          go_simp
          exact hK _ _ rfl (Below.refl _ _)
        · intro W2 hw K hK
          go_simp
          exact hK _ _ rfl (Below.refl _ _)
        · intro W2 hw K hK
          go_simp
          exact hK _ _ rfl (Below.refl _ _)
        · intro W2 hw K hK
          go_simp
          exact hK _ _ rfl (Below.refl _ _)
        · intro W2 hw K hK
          go_simp
          exact hK _ _ rfl (Below.refl _ _)
        · intro W2 hw K hK
          obtain ⟨a0, _⟩ := HA.out W2 hw
          go_simp
          refine Calls.mono (st_size_gen (HS.out W2 a0) (k : Int) hl) ?_
          rintro e w' ⟨rfl, rfl⟩
          exact hK _ _ (by rw [sizeV_out (HOU.out 0)]; rfl) (Below.refl _ _)
        · intro W2 hw K hK
          go_simp
          exact hK _ _ rfl (Below.refl _ _)
        · intro W2 hw K hK
          go_simp
          exact hK _ _ rfl (Below.refl _ _)
        · intro W2 hw K hK
          go_simp
          exact hK _ _ rfl (Below.refl _ _)
        · intro W2 hw K hK
          go_simp
          exact hK _ _ rfl (Below.refl _ _)
        · intro W2 hw K hK
          go_simp
          exact hK _ _ rfl (Below.refl _ _)
        · intro W2 hw K hK
          obtain ⟨a0, _⟩ := HA.out W2 hw
          go_simp
          refine Calls.mono (st_waiting_gen (HS.out W2 a0) (k : Int) hl) ?_
          rintro e w' ⟨rfl, rfl⟩
          exact hK _ _ (by rw [waitV_out (HOU.out 0)]; rfl) (Below.refl _ _)
        · intro W2 hw K hK
          go_simp
          exact hK _ _ rfl (Below.refl _ _)
        · intro W2 hw K hK
          go_simp
          exact hK _ _ rfl (Below.refl _ _)
        · intro W2 hw K hK
          go_simp
          exact hK _ _ rfl (Below.refl _ _)
        · intro W2 hw K hK
          go_simp
          exact hK _ _ rfl (Below.refl _ _)
        · intro W2 hw K hK
          go_simp
          exact hK _ _ rfl (Below.refl _ _)
        · intro W2 hw K hK
          obtain ⟨a0, _⟩ := HA.out W2 hw
          go_simp
          refine Calls.mono (st_sure_gen (HS.out W2 a0) (k : Int) 0 hl) ?_
          rintro e w' ⟨rfl, hb9⟩
          exact hK _ _ (congrArg Sx.val (sureV_out (HOU.out 0))) hb9
        · intro W2 hw K hK
          go_simp
          exact hK _ _ (congrArg Value.agg zero_arr) (Below.refl _ _)
        · intro W2 hw K hK
          have he1 := eql_sx Sx.zero Sx.zero W2
          rw [decide_eq_true rfl] at he1
          have he2 := guard_sx .eql (.tmp 136) (.tmp 137) Sx.zero Sx.zero W2
          go_simp
          exact hK _ _ rfl (Below.refl _ _)
        · intro W2 hw K hK
          go_simp
          exact hK _ _ rfl (Below.refl _ _)
      · intro W2 hw2
        simp only [Behind, List.drop, Act.put, List.setIfInBounds_toArray, List.set_cons_zero, List.set_cons_succ]
        have HBE := Lib.hid (HWA.out.trans (((Below.refl _ wr).drew.trans hw2).mono (by exact HWA.out.size)))
        clear hw2 HA HB1 HWA
        go_wp2_with fail
        refine NoPanic.normal ?_
        go_wp2_with fail
        go_ret
        exact ⟨rfl, HBE.out⟩
end Go.Proofs.Ythmebgpleegonaa
