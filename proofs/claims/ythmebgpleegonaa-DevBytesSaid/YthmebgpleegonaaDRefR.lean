/- The document's Read. -/
import Derived.Test.YthmebgpleegonaaDRefF
namespace Go.Proofs.Ythmebgpleegonaa
set_option maxRecDepth 100000
open Go.RowKit

/-- What the document reads: a sector, an error's number. -/
def readV (p : Pw) (ds : List Dk) (d i : Int) : Sx × Nat := if p.gone = true then (Sx.zero, 3) else if hasB ds d i = false then (Sx.zero, 1) else match ds[d.toNat]? with
  | some k => (readM k i, 0)
  | none => (Sx.zero, 1)
theorem resultsRef {w : World} {b : Nat} {x : Sx} (h : SBlk w b x) (n : Int) (tmps : Array Value) (h6 : tmps.getD 6 undef = .pointer (some ⟨b, 0, none⟩)) (h7 : tmps.getD 7 undef = .int .i64 n) :
    (results Try.f33 tmps).run Try.prog w = .ok (.tuple #[x.val, .int .i64 n]) w := by
  have h6' : tmps[6]?.getD undef = .pointer (some ⟨b, 0, none⟩) := by simpa using h6
  have h7' : tmps[7]?.getD undef = .int .i64 n := by simpa using h7
  have e : Try.f33.results = #[.cell 6 50, .tmp 7] := Try.results33
  simp only [results, e]
  simp [asAddr, h6', h7', h.load]
set_option maxHeartbeats 8000000 in
theorem refread_any {w : World} {X : Nat → Prop} {A : Option Addr} {c : Nat} {ds : List Dk} (h : RSet w X A c ds) (p : Pw) (left d i : Int) (hl : ds.length ≤ 1000) (hwn : ∀ d ∈ ds, d.waits.length ≤ 1000000) :
    Calls Try.prog 33 #[rsV A c ds p left, .int .i64 d, .int .i64 i] w fun e w' => e = .returned (.tuple #[(readV p ds d i).1.val, .int .i64 ((readV p ds d i).2 : Int)]) ∧ Below w.heap.size w w' := by
  obtain ⟨k1, k3, ks, hb3⟩ := two_blocks w (.cells #[.slice A ds.length c, .int .i64 (p.steps : Int), .int .i64 left, .bool p.ia, .bool p.gone] 33) (.cells Sx.zero.arr 50)
  have HW := Lib.hid (And.intro k1 (And.intro k3 (And.intro ks (And.intro hb3 (h.below hb3)))))
  have HWN := Lib.hid hwn
  obtain ⟨N, hN⟩ : ∃ N, N = ds.length := ⟨_, rfl⟩
  have HN := Lib.hid hN
  obtain ⟨z, hz⟩ : ∃ z, z = w.heap.size := ⟨_, rfl⟩
  have HZ := Lib.hid hz
  have HRV := Lib.hid (show readV p ds d i = if p.gone = true then (Sx.zero, 3) else if hasB ds d i = false then (Sx.zero, 1) else match ds[d.toNat]? with | some k => (readM k i, 0) | none => (Sx.zero, 1) from rfl)
  obtain ⟨rv, hrv⟩ : ∃ y, y = readV p ds d i := ⟨_, rfl⟩
  rw [← hrv] at HRV ⊢
  rw [← hN, ← hz] at HW
  unfold rsV
  rw [← hN] at hl ⊢
  have HH := Lib.hid (fun (W : World) (hr : RSet W X A c ds) => refhas_any hr p left d i (by omega))
  unfold rsV at HH
  rw [← HN.out] at HH
  have HXL := Lib.hid h.lt
  clear k1 k3 ks hb3 h hwn hN hrv
  rw [← hz]
  clear hz
  go_enter Try.func33, Try.ntmps33
  go_upto_region 1 with fail
  rw [← HZ.out, zero_arr]
  revert HW
  generalize World.alloc _ _ = wb
  intro HW
  obtain ⟨k1, k3, ks, hb3, hr⟩ := HW.out
  have q0 := (cell_of_row _ _ 0 _ _ (0, 0) k1).trans rfl
  have q1 := (cell_of_row _ _ 1 _ _ (0, 0) k1).trans rfl
  have q2 := (cell_of_row _ _ 2 _ _ (0, 0) k1).trans rfl
  have q3 := (cell_of_row _ _ 3 _ _ (0, 0) k1).trans rfl
  have q4 := (cell_of_row _ _ 4 _ _ (0, 0) k1).trans rfl
  have hzl : z + 1 < wb.heap.size := by omega
  have HB3 := Lib.hid hb3
  have HR := Lib.hid hr
  have K3 := Lib.hid k3
  have K1 := Lib.hid k1
  clear k1 k3 ks hb3 hr HW
  obtain ⟨gn, hgn⟩ : ∃ y, y = p.gone := ⟨_, rfl⟩
  rw [← hgn] at HRV HH K1 q4 ⊢
  have HGN := Lib.hid hgn
  clear hgn
  have HST := Lib.hid (show ∀ (W : World) (y : Sx), W.heap[z + 1]? = some (.cells Sx.zero.arr 50 (0, 0)) → Below z w W → (storeVar 50 ⟨z + 1, 0, none⟩ y.val).run Try.prog W = .ok () (W.setRow (z + 1) y.arr) ∧ SBlk (W.setRow (z + 1) y.arr) (z + 1) y ∧ Below z w (W.setRow (z + 1) y.arr) from fun W y hk hb => by
    have hk' : SBlk W (z + 1) Sx.zero := hk
    refine ⟨hk'.store y, hk'.put y, ?_⟩
    have := setRow_below (w := w) (W := W) (b := z + 1) (cs := y.arr) (by rw [← HZ.out]; exact hb) (by rw [← HZ.out]; omega)
    exact (show ∀ q, q = w.heap.size → Below q w (W.setRow (z + 1) y.arr) from fun q e => by rw [e]; exact this) z HZ.out)
  cases gn with
  | true =>
    obtain ⟨hst, hput, hpb⟩ := HST.out wb Sx.zero K3.out HB3.out
    have HP := Lib.hid hput
    have HPB := Lib.hid hpb
    clear hput hpb
    have HRV2 := Lib.hid (show rv = (Sx.zero, 3) by rw [HRV.out, if_pos rfl])
    go_wp2_with (refine wpList_store_val rfl (.tmp 6) (.tmp 12) rfl rfl Sx.zero.val (congrArg Value.agg zero_arr) hst ?_)
    refine bodyPost_ret (resultsRef HP.out 3 _ rfl rfl) rfl ⟨?_, HPB.out⟩
    rw [HRV2.out]; rfl
  | false =>
    have HH1 := Lib.hid (HH.out wb HR.out)
    go_wp2_with fail
    refine Calls.mono HH1.out ?_
    rintro e w1 ⟨rfl, b1⟩
    have hb1 := HB3.out.trans (b1.mono (by have := HB3.out.size; have := HZ.out; omega))
    have r1 := HR.out.below b1
    have k1 := (b1.block z (by omega)).trans K1.out
    have k3 := (b1.block (z + 1) (by omega)).trans K3.out
    have hz1 : z + 1 < w1.heap.size := Nat.lt_of_lt_of_le hzl b1.size
    clear q0 q1 q2 q3 q4 b1 HH1 HH
    obtain ⟨hb, hhb⟩ : ∃ y, y = hasB ds d i := ⟨_, rfl⟩
    rw [← hhb] at HRV ⊢
    have HHB := Lib.hid hhb
    clear hhb
    cases hb with
    | false =>
      obtain ⟨hst, hput, hpb⟩ := HST.out w1 Sx.zero k3 hb1
      have HP := Lib.hid hput
      have HPB := Lib.hid hpb
      have HRV2 := Lib.hid (show rv = (Sx.zero, 1) by rw [HRV.out, if_neg (by decide), if_pos rfl])
      clear hput hpb k1 k3 hb1 r1
      go_wp2_with (refine wpList_store_val rfl (.tmp 6) (.tmp 18) rfl rfl Sx.zero.val (congrArg Value.agg zero_arr) hst ?_)
      refine bodyPost_ret (resultsRef HP.out 1 _ rfl rfl) rfl ⟨?_, HPB.out⟩
      rw [HRV2.out]; rfl
    | true =>
      obtain ⟨j, rfl, hj, hi1, hi2⟩ := hasB_true HHB.out.symm
      obtain ⟨b, off, rfl, hc⟩ := r1.cells (by omega)
      obtain ⟨A1, c1, A2, c2, m1, m2, hok⟩ := hc j hj
      have hjN : j < N := by have := HN.out; omega
      have hwj := HWN.out _ (List.getElem_mem hj)
      have HRV2 := Lib.hid (show rv = (readM ds[j] i, 0) by rw [HRV.out, if_neg (by decide), if_neg (by decide), Int.toNat_natCast, List.getElem?_eq_getElem hj])
      obtain ⟨dj, hdj⟩ : ∃ y, y = ds[j] := ⟨_, rfl⟩
      rw [← hdj] at m1 m2 hok hwj hi2 HRV2
      obtain ⟨sz, hsz⟩ : ∃ y, y = dj.size := ⟨_, rfl⟩
      obtain ⟨nw, hnw⟩ : ∃ y, y = dj.waits.length := ⟨_, rfl⟩
      rw [← hsz] at m1 hi2
      rw [← hnw] at m2 hwj
      obtain ⟨k, rfl⟩ : ∃ k : Nat, i = (k : Int) := ⟨i.toNat, by omega⟩
      have hks : k < sz := by omega
      have HSZ := Lib.hid hsz
      have HNW := Lib.hid hnw
      have q0 := (cell_of_row _ _ 0 _ _ (0, 0) k1).trans rfl
      have q1 := (cell_of_row _ _ 1 _ _ (0, 0) k1).trans rfl
      have q2 := (cell_of_row _ _ 2 _ _ (0, 0) k1).trans rfl
      have q3 := (cell_of_row _ _ 3 _ _ (0, 0) k1).trans rfl
      have q4 := (cell_of_row _ _ 4 _ _ (0, 0) k1).trans rfl
      have hba : Below w1.heap.size w1 (w1.alloc (.cells #[.slice A1 sz c1, .slice A2 nw c2] 85)) := (Below.refl _ _).alloc (Nat.le_refl _) _
      have HM := Lib.hid (And.intro (heap_alloc_new w1 (.cells #[.slice A1 sz c1, .slice A2 nw c2] 85)) (And.intro ((hba.block (z + 1) (by omega)).trans k3) (And.intro (hok.keep fun q e => hba.block q (r1.lt q e)) (hb1.trans (hba.mono (by omega))))))
      clear hba hok hc hdj hsz hnw r1 hb1 k1 k3 hi1 hi2 HR K1 K3
      go_upto_region 6 with fail
      clear m1 m2 q0 q1 q2 q3 q4
      obtain ⟨t, ht⟩ : ∃ y, y = w1.heap.size := ⟨_, rfl⟩
      rw [← ht] at HM ⊢
      clear ht
      revert HM
      generalize World.alloc w1 _ = wz
      intro HM
      obtain ⟨t0, k3, hok, hbz⟩ := HM.out
      have d0 := (cell_of_row _ _ 0 _ _ (0, 0) t0).trans rfl
      have d1 := (cell_of_row _ _ 1 _ _ (0, 0) t0).trans rfl
      have HSEC := Lib.hid hok.sec.row
      have HWTS := Lib.hid hok.wts.row
      rw [show (RDx.mk A1 c1 dj A2 c2).d = dj from rfl, show (RDx.mk A1 c1 dj A2 c2).A = A1 from rfl, ← HSZ.out] at HSEC
      rw [show (RDx.mk A1 c1 dj A2 c2).d = dj from rfl, show (RDx.mk A1 c1 dj A2 c2).A2 = A2 from rfl, ← HNW.out] at HWTS
      clear t0 k3 hok hbz
      go_wp2_with fail
      go_loop [9] (fun i9 => ∃ q : Nat, q ≤ nw ∧ i9 = .int .i64 ((q : Int) - 1) ∧ Hid (noHit dj.waits (k : Int) (nw - q))) (fun i9 => (intOf i9 + 1).toNat)
      case atStart => exact ⟨nw, Nat.le_refl _, by first | rfl | go_num, Lib.hid (by rw [Nat.sub_self]; exact fun q hq => absurd hq (Nat.not_lt_zero _))⟩
      case round =>
        obtain ⟨q, hq, rfl, hno⟩ := hrel
        by_cases hq0 : 0 < q
        · obtain ⟨q', rfl⟩ : ∃ q', q = q' + 1 := ⟨q - 1, by omega⟩
          have hql : q' < dj.waits.length := by have := HNW.out; omega
          obtain ⟨bw, ow, rfl, hcw⟩ := HWTS.out.2 (by omega)
          have ha := at_row Wx.vlen hcw q' hql
          have hget : dj.waits.getD (dj.waits.length - 1 - (nw - (q' + 1))) ⟨0, Sx.zero⟩ = dj.waits[q'] := by
            rw [show dj.waits.length - 1 - (nw - (q' + 1)) = q' by have := HNW.out; omega, List.getD_eq_getElem?_getD, List.getElem?_eq_getElem hql]
            rfl
          obtain ⟨y, hy⟩ : ∃ y, y = dj.waits[q'] := ⟨_, rfl⟩
          rw [← hy] at ha hget
          have a0 := ha 0 _ rfl
          have hldx : (loadVar 50 ⟨bw, ow + q' * 65 + 1, none⟩).run Try.prog wz = .ok y.x.val wz := load_sx fun r u hr => by
            have := ha (r + 1) u hr
            rwa [show ow + q' * 65 + (r + 1) = ow + q' * 65 + 1 + r by omega] at this
          rw [Nat.add_zero] at a0
          have HLD := Lib.hid hldx
          have HGET := Lib.hid hget
          have HNO := Lib.hid hno.out
          have hqn : q' < nw := by omega
          have e1 : ((q' + 1 : Nat) : Int) - 1 = (q' : Int) := by omega
          rw [e1]
          obtain ⟨yi, hyi⟩ : ∃ u, u = y.i := ⟨_, rfl⟩
          have HYI := Lib.hid hyi
          rw [← hyi] at a0
          clear ha hcw hy hldx hget hno hyi e1
          by_cases he : yi = (k : Int)
          · have he' : (yi == (k : Int)) = true := by rw [he]; simp
            obtain ⟨hst, hput, hpb⟩ := HST.out wz y.x HM.out.2.1 HM.out.2.2.2
            have HP := Lib.hid hput
            have HPB := Lib.hid hpb
            have HE := Lib.hid he
            have hz2 : z + 1 < wz.heap.size := (Array.getElem?_eq_some_iff.1 HM.out.2.1).1
            clear hput hpb he
            go_wp2_with (first | (refine wpList_load_val rfl (.tmp 44) rfl rfl y.x.val HLD.out ?_) | (refine wpList_store_val rfl (.tmp 6) (.tmp 45) rfl rfl y.x.val rfl hst ?_))
            refine bodyPost_ret (resultsRef HP.out 0 _ rfl rfl) rfl ⟨?_, HPB.out⟩
            rw [HRV2.out]
            have := readM_hit (d := dj) HNO.out (by have := HNW.out; omega) (by rw [HGET.out, ← HYI.out]; exact HE.out)
            rw [this, HGET.out]
            rfl
          · have he' : (yi == (k : Int)) = false := beq_eq_false_iff_ne.2 he
            have HNX := Lib.hid (show noHit dj.waits (k : Int) (nw - q') from by
              have := HNO.out.next (by rw [HGET.out, ← HYI.out]; exact he)
              rwa [show nw - (q' + 1) + 1 = nw - q' by omega] at this)
            clear he
            go_wp2_with fail
            go_round
            case rel => exact ⟨q', by omega, rfl, HNX⟩
            case measure => simp [intOf]
        · obtain rfl : q = 0 := by omega
          obtain ⟨bs, os, rfl, hcs⟩ := HSEC.out.2 (by omega)
          have hkl : k < (secs dj).length := by rw [secs_length]; have := HSZ.out; omega
          have ha := at_row Sx.vlen hcs k hkl
          rw [secs_get] at ha
          obtain ⟨x, hx⟩ : ∃ x, x = dj.sure (k : Int) := ⟨_, rfl⟩
          rw [← hx] at ha
          have HX := Lib.hid hx
          have HLD := Lib.hid (load_sx ha)
          obtain ⟨hst, hput, hpb⟩ := HST.out wz x HM.out.2.1 HM.out.2.2.2
          have HP := Lib.hid hput
          have HPB := Lib.hid hpb
          have HNO := Lib.hid hno.out
          have hz2 : z + 1 < wz.heap.size := (Array.getElem?_eq_some_iff.1 HM.out.2.1).1
          clear ha hcs hx hput hpb hno
          go_wp2_with (first | (refine wpList_load_val rfl (.tmp 49) rfl rfl x.val HLD.out ?_) | (refine wpList_store_val rfl (.tmp 6) (.tmp 50) rfl rfl x.val rfl hst ?_))
          refine bodyPost_ret (resultsRef HP.out 0 _ rfl rfl) rfl ⟨?_, HPB.out⟩
          rw [HRV2.out]
          have := readM_none (d := dj) (i := (k : Int)) (by have := HNO.out; rw [Nat.sub_zero, HNW.out] at this; exact this)
          rw [this, HX.out]
          rfl
end Go.Proofs.Ythmebgpleegonaa
