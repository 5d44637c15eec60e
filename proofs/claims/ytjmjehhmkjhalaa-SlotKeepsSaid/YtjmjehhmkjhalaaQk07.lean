/- SlKeeps: put together. -/
import Derived.Test.YtjmjehhmkjhalaaQk02
import Derived.Test.YtjmjehhmkjhalaaQk06
import Derived.Test.YtjmjehhmkjhalaaQb45
import Derived.Test.YtjmjehhmkjhalaaQb34
/- SlotKeeps: the law. -/
namespace Go.Proofs.Ytjmjehhmkjhalaa
set_option maxRecDepth 100000
open Go.RowKit

section
variable {w W W' : World} {F F' : Nat → Prop} {g : Nat} {p p' : Pw} {ds ds' : List Dk} {K K' nb zo nx : Nat} {cn cx : Array Value} {o : O15} {m m2 : Mf} {A A2 : Option Addr} {c c2 : Nat}
theorem mf_cells {b : Nat} {t : TypeId} (h : W.heap[b]? = some (.cells (mfC m A c) t (0, 0))) : W.cell? ⟨b, 0, none⟩ = some (.int .i64 m.gen) ∧ W.cell? ⟨b, 1, none⟩ = some (.int .i64 m.epoch) ∧ W.cell? ⟨b, 2, none⟩ = some (.int .i64 m.base) ∧ W.cell? ⟨b, 3, none⟩ = some (.int .i64 m.area) ∧ W.cell? ⟨b, 4, none⟩ = some (.int .i64 m.len) ∧ W.cell? ⟨b, 5, none⟩ = some (.slice A m.heads.length c) :=
  ⟨cell_of_row _ _ 0 _ _ (0, 0) h, cell_of_row _ _ 1 _ _ (0, 0) h, cell_of_row _ _ 2 _ _ (0, 0) h, cell_of_row _ _ 3 _ _ (0, 0) h, cell_of_row _ _ 4 _ _ (0, 0) h, cell_of_row _ _ 5 _ _ (0, 0) h⟩
theorem KpM.turn' (h : KpM w W F g p ds K nb zo nx (mfC m A c) cx o) (m2 : Mf) (A2 : Option Addr) (c2 : Nat) :
    KpM w ((((((W.setCell ⟨nb, 0, none⟩ (.int .i64 m2.gen)).setCell ⟨nb, 1, none⟩ (.int .i64 m2.epoch)).setCell ⟨nb, 2, none⟩ (.int .i64 m2.base)).setCell ⟨nb, 3, none⟩ (.int .i64 m2.area)).setCell ⟨nb, 4, none⟩ (.int .i64 m2.len)).setCell ⟨nb, 5, none⟩ (.slice A2 m2.heads.length c2)) F g p ds K nb zo nx (mfC m2 A2 c2) cx o := KpM.turn h _ _ _ _ _ _
end
set_option maxHeartbeats 16000000 in
theorem slkeeps_law (m : Mf) (A0 : Option Addr) (c0 : Nat) (A : Option Addr) (c : Nat) (l : List O15) (w : World) (hz : Zs w A0 m.heads) (hml : m.heads.length ≤ 9223372036854775807) (hnil : A0 = none → c0 = 0) (hl : O15s w A l) (hll : l.length ≤ 9223372036854775807)
    (hok : ∀ o ∈ l, o.n ≤ 9223372036854775807 ∧ Zs w o.A o.m.heads ∧ (o.A = none → o.c = 0) ∧ ∃ kl, Kps w o.B kl ∧ kl.length = o.k) :
    Calls Try.prog 10 #[.agg (mfC m A0 c0), .slice A l.length c] w fun e w' => e = .returned (.bool true) ∧ Below w.heap.size w w' := by
  have HZ := Lib.hid hz
  have HNI := Lib.hid hnil
  have HH := Lib.hid hl
  have HOK := Lib.hid hok
  have HLL := Lib.hid hll
  have hbA : Below w.heap.size w (w.alloc (.cells (mfC m A0 c0) 91)) := (Below.refl _ _).alloc (Nat.le_refl _) _
  have hmA := heap_alloc_new w (.cells (mfC m A0 c0) 91)
  have HGD := Lib.hid (fun W (hb : Below w.heap.size w W) => rfgood_any m A0 c0 W (RowAt.below HZ.out hb) hml)
  have HLG := Lib.hid (fun W (hb : Below w.heap.size w W) => long15_any A c l W (RowAt.below HH.out hb) HLL.out)
  have HPR := Lib.hid (fun W (hb : Below w.heap.size w W) => program15_any m A0 c0 W (RowAt.below HZ.out hb) HNI.out)
  obtain ⟨n, hn⟩ : ∃ n, n = l.length := ⟨_, rfl⟩
  have HN := Lib.hid hn
  have HMC := Lib.hid (show mfC m A0 c0 = #[.int .i64 m.gen, .int .i64 m.epoch, .int .i64 m.base, .int .i64 m.area, .int .i64 m.len, .slice A0 m.heads.length c0] from rfl)
  rw [HMC.out] at hbA hmA HGD HPR ⊢
  rw [← hn] at HLG ⊢
  have HBA := Lib.hid hbA
  have HMA := Lib.hid hmA
  clear hz hnil hl hok hll hbA hmA hml hn
  go_enter Try.func10, Try.ntmps10
  go_upto_region 1 with (fail)
  obtain ⟨w0, hw0⟩ : ∃ w0, w0 = w.alloc (.cells #[.int .i64 m.gen, .int .i64 m.epoch, .int .i64 m.base, .int .i64 m.area, .int .i64 m.len, .slice A0 m.heads.length c0] 91) := ⟨_, rfl⟩
  obtain ⟨mb, hmb⟩ : ∃ mb, mb = w.heap.size := ⟨_, rfl⟩
  rw [← hw0] at HBA HMA ⊢
  rw [← hmb] at HMA ⊢
  clear hw0 hmb
  go_wp2_with fail
  refine Calls.mono (slalive_any w0) ?_
  rintro e w1 ⟨rfl, hb1⟩
  have HB1 := Lib.hid (HBA.out.trans (hb1.mono HBA.out.size))
  have HM1 := Lib.hid ((hb1.block mb (Array.getElem?_eq_some_iff.1 HMA.out).1).trans HMA.out)
  clear hb1
  have HLG1 := Lib.hid (HLG.out w1 HB1.out)
  go_wp2_with fail
  refine Calls.mono HLG1.out ?_
  rintro e w2 ⟨r, rfl, hr, hb2⟩
  have HB2 := Lib.hid (HB1.out.trans (hb2.mono HB1.out.size))
  have HM2 := Lib.hid ((hb2.block mb (Array.getElem?_eq_some_iff.1 HM1.out).1).trans HM1.out)
  clear hb2 HLG1
  cases r with
  | true =>
    clear hr
    go_wp2_with fail
    go_ret
    exact ⟨rfl, HB2.out⟩
  | false =>
  have HSH := Lib.hid (hr rfl)
  clear hr
  have k0 := (cell_of_row _ _ 0 _ _ (0, 0) HM2.out).trans rfl
  have k1 := (cell_of_row _ _ 1 _ _ (0, 0) HM2.out).trans rfl
  have k2 := (cell_of_row _ _ 2 _ _ (0, 0) HM2.out).trans rfl
  have k3 := (cell_of_row _ _ 3 _ _ (0, 0) HM2.out).trans rfl
  have k4 := (cell_of_row _ _ 4 _ _ (0, 0) HM2.out).trans rfl
  have k5 := (cell_of_row _ _ 5 _ _ (0, 0) HM2.out).trans rfl
  have HGD2 := Lib.hid (HGD.out w2 HB2.out)
  go_wp2_with fail
  refine Calls.mono HGD2.out ?_
  rintro e w3 ⟨rfl, hb3⟩
  have HB3 := Lib.hid (HB2.out.trans (hb3.mono HB2.out.size))
  have HM3 := Lib.hid ((hb3.block mb (Array.getElem?_eq_some_iff.1 HM2.out).1).trans HM2.out)
  clear hb3 HGD2 k0 k1 k2 k3 k4 k5
  cases hgb : goodB m with
  | false =>
    go_wp2_with fail
    go_ret
    exact ⟨rfl, HB3.out⟩
  | true =>
  have HG := Lib.hid ((goodB_iff m).1 hgb)
  clear hgb
  have k0 := (cell_of_row _ _ 0 _ _ (0, 0) HM3.out).trans rfl
  have k1 := (cell_of_row _ _ 1 _ _ (0, 0) HM3.out).trans rfl
  have k2 := (cell_of_row _ _ 2 _ _ (0, 0) HM3.out).trans rfl
  have k3 := (cell_of_row _ _ 3 _ _ (0, 0) HM3.out).trans rfl
  have k4 := (cell_of_row _ _ 4 _ _ (0, 0) HM3.out).trans rfl
  have k5 := (cell_of_row _ _ 5 _ _ (0, 0) HM3.out).trans rfl
  by_cases h33 : 8589934592 < m.gen
  · have d1 : decide (8589934592 < m.gen) = true := decide_eq_true h33
    clear h33
    go_wp2_with fail
    go_ret
    exact ⟨rfl, HB3.out⟩
  have d1 : decide (8589934592 < m.gen) = false := decide_eq_false h33
  clear h33
  have hba : Below w3.heap.size w3 (w3.alloc (.cells #[.int .i64 3] 3)) := (Below.refl _ _).alloc (Nat.le_refl _) _
  have HN3 := Lib.hid (st_new _ 1 [3] _ (sz_one w3 3) (by decide) (by decide))
  have HB4 := Lib.hid (HB3.out.trans (hba.mono HB3.out.size))
  have HM4 := Lib.hid ((hba.block mb (Array.getElem?_eq_some_iff.1 HM3.out).1).trans HM3.out)
  clear hba
  go_wp2_with fail
  refine Calls.mono HN3.out ?_
  rintro e w5 ⟨F5, g, rfl, s5, c5⟩
  have HB5 := Lib.hid (HB4.out.trans ((c5.below (Nat.le_refl _) fun k e => e.elim).mono HB4.out.size))
  have HM5 := Lib.hid ((c5.block mb (Array.getElem?_eq_some_iff.1 HM4.out).1 fun e => e).trans HM4.out)
  have HF5 := Lib.hid (show ∀ k, F5 k → w.heap.size ≤ k from fun k hk => by
    rcases c5.new k hk with e | e
    · exact e.elim
    · exact Nat.le_trans HB4.out.size e)
  have HFM := Lib.hid (show ¬ F5 mb from fun hk => by
    rcases c5.new mb hk with e | e
    · exact e.elim
    · exact absurd (Array.getElem?_eq_some_iff.1 HM4.out).1 (Nat.not_lt_of_le e))
  have HS5 := Lib.hid s5
  clear s5 c5 HN3 k0 k1 k2 k3 k4 k5
  have k0 := (cell_of_row _ _ 0 _ _ (0, 0) HM5.out).trans rfl
  have k1 := (cell_of_row _ _ 1 _ _ (0, 0) HM5.out).trans rfl
  have k2 := (cell_of_row _ _ 2 _ _ (0, 0) HM5.out).trans rfl
  have k3 := (cell_of_row _ _ 3 _ _ (0, 0) HM5.out).trans rfl
  have k4 := (cell_of_row _ _ 4 _ _ (0, 0) HM5.out).trans rfl
  have k5 := (cell_of_row _ _ 5 _ _ (0, 0) HM5.out).trans rfl
  have HPR5 := Lib.hid (HPR.out w5 HB5.out (by have := HG.out.h2; omega))
  go_wp2_with fail
  refine Calls.mono HPR5.out ?_
  rintro e w6 ⟨_, rfl, A2, c2, rfl, ho6, hb6⟩
  have HB6 := Lib.hid (HB5.out.trans (hb6.mono HB5.out.size))
  have HM6 := Lib.hid ((hb6.block mb (Array.getElem?_eq_some_iff.1 HM5.out).1).trans HM5.out)
  have hsv := slsave_ok (HS5.out.below hb6) HG.out A2 c2 (zs_own (c := c2) ho6 rfl) (by decide) (by decide) (by decide) (by decide)
  obtain ⟨x, hx⟩ : ∃ x, x = secX m HG.out := ⟨_, rfl⟩
  rw [← hx] at hsv
  have hki := KI.first HG.out
  rw [← hx] at hki
  have HKI := Lib.hid hki
  have HSV := Lib.hid (show Calls Try.prog 58 #[.pointer (some ⟨g, 0, none⟩), .agg (mfC m A2 c2)] w6 fun e w' => e = .returned .nilIface ∧ ∃ F', St w' F' g ⟨2, 0, false, false⟩ [⟨3, upd (fun _ => Sx.zero) (m.gen % 2) x, []⟩] 1 ∧ Chg w6 w' F5 F' from hsv)
  unfold mfC at HSV ⊢
  clear hb6 HPR5 hsv hx hki k0 k1 k2 k3 k4 k5
  go_wp2_with fail
  refine Calls.mono HSV.out ?_
  rintro e w7 ⟨rfl, F7, s7, c7⟩
  have hm7 := (c7.block mb (Array.getElem?_eq_some_iff.1 HM6.out).1 HFM.out).trans HM6.out
  have HB7 := Lib.hid (show Below w.heap.size w w7 from ⟨c7.os.trans HB6.out.os, c7.tape.trans HB6.out.tape, c7.output.trans HB6.out.output, Nat.le_trans HB6.out.size c7.size, fun k hk => (c7.block k (by have := HB6.out.size; omega) fun e => by have := HF5.out k e; omega).trans (HB6.out.block k hk)⟩)
  have HF7 := Lib.hid (show ∀ k, F7 k → w.heap.size ≤ k from fun k hk => by
    rcases c7.new k hk with e | e
    · exact HF5.out k e
    · have := HB6.out.size; omega)
  have HS7 := Lib.hid s7
  have HM7 := Lib.hid hm7
  clear s7 c7 hm7 HSV
  have k0 := (cell_of_row _ _ 0 _ _ (0, 0) HM7.out).trans rfl
  have k1 := (cell_of_row _ _ 1 _ _ (0, 0) HM7.out).trans rfl
  have k2 := (cell_of_row _ _ 2 _ _ (0, 0) HM7.out).trans rfl
  have k3 := (cell_of_row _ _ 3 _ _ (0, 0) HM7.out).trans rfl
  have k4 := (cell_of_row _ _ 4 _ _ (0, 0) HM7.out).trans rfl
  have k5 := (cell_of_row _ _ 5 _ _ (0, 0) HM7.out).trans rfl
  have hba : Below w7.heap.size w7 (w7.alloc (.cells #[.int .i64 m.gen, .int .i64 m.epoch, .int .i64 m.base, .int .i64 m.area, .int .i64 m.len, .slice A0 m.heads.length c0] 91)) := (Below.refl _ _).alloc (Nat.le_refl _) _
  have HL0 := Lib.hid (show LpI w (w7.alloc (.cells #[.int .i64 m.gen, .int .i64 m.epoch, .int .i64 m.base, .int .i64 m.area, .int .i64 m.len, .slice A0 m.heads.length c0] 91)) g w7.heap.size m A0 c0 0 from
    ⟨⟨F7, _, _, HS7.out.below hba, rfl, Nat.le_refl _, by decide, HKI.out, HF7.out, fun hk => absurd (HS7.out.lt _ hk) (Nat.lt_irrefl _)⟩, HB7.out.trans (hba.mono HB7.out.size), HB7.out.size, heap_alloc_new w7 _, HZ.out, HNI.out⟩)
  clear hba
  go_upto_region 9 with (fail)
  obtain ⟨w8, hw8⟩ : ∃ w8, w8 = w7.alloc (.cells #[.int .i64 m.gen, .int .i64 m.epoch, .int .i64 m.base, .int .i64 m.area, .int .i64 m.len, .slice A0 m.heads.length c0] 91) := ⟨_, rfl⟩
  obtain ⟨nb, hnb⟩ : ∃ nb, nb = w7.heap.size := ⟨_, rfl⟩
  rw [← hw8] at HL0 ⊢
  rw [← hnb] at HL0 ⊢
  clear hw8 hnb k0 k1 k2 k3 k4 k5 HS7 HM7 HB7 HF7 HFM HF5 HS5 HM5 HB5 HM6 HB6 HM4 HB4 HM3 HB3 HM2 HB2 HM1 HB1 HBA HMA HGD HLG HPR HMC HKI HZ HNI
  obtain ⟨m0, hm0⟩ : ∃ m0, m0 = m := ⟨_, rfl⟩
  rw [← hm0] at HL0
  clear d1 HG hm0
  go_wp2_with fail
  go_loopw [46] (fun i wr => ∃ (q : Nat) (m : Mf) (A : Option Addr) (c : Nat), i = .int .i64 (q : Int) ∧ q ≤ n ∧ LpI w wr g nb m A c q) (fun i _ => n - (intOf i).toNat)
  case atStart => exact ⟨0, m0, A0, c0, rfl, by omega, HL0.out⟩
  case round =>
    obtain ⟨q, mq, Aq, cq, rfl, hq, hlp⟩ := hrel
    have HLP := Lib.hid hlp
    by_cases hlt : q < n
    · have hql : q < l.length := by rw [← HN.out]; exact hlt
      have HQ := Lib.hid (show q ≤ 40 by have := HSH.out.1; omega)
      obtain ⟨b, off, rfl, hc⟩ := O15s.at (RowAt.below HH.out hlp.below) (by omega)
      have hat := hc q hql
      obtain ⟨o, ho⟩ : ∃ o, o = l[q] := ⟨_, rfl⟩
      have hoo := HOK.out _ (List.getElem_mem hql)
      have hso := HSH.out.2 _ (List.getElem_mem hql)
      rw [← ho] at hat hoo hso
      have HOO := Lib.hid hoo
      have HSO := Lib.hid hso
      have HLD := Lib.hid (load_op hat)
      have HST := Lib.hid (storeVar_op wr o)
      have hzz := zeroOp wr
      clear hc ho hat hso hoo hlp
      go_upto_region 12 with (first | (refine wpList_load_val rfl (.tmp 48) rfl rfl (.agg o.arr) HLD.out ?_) | (refine wpList_store_val rfl (.tmp 9) (.tmp 49) rfl rfl (.agg o.arr) rfl HST.out ?_))
      have hba : Below wr.heap.size wr (wr.alloc (.cells o.arr 108)) := (Below.refl _ _).alloc (Nat.le_refl _) _
      have hzo := heap_alloc_new wr (.cells o.arr 108)
      have HB1 := Lib.hid hba
      have hzs := World.size_alloc wr (.cells o.arr 108)
      clear hzz HLD HST hba
      obtain ⟨w1, hw1⟩ : ∃ w1, w1 = wr.alloc (.cells o.arr 108) := ⟨_, rfl⟩
      obtain ⟨zo, hz1⟩ : ∃ z, z = wr.heap.size := ⟨_, rfl⟩
      rw [← hw1] at HB1 hzo hzs ⊢
      rw [← hz1] at hzo ⊢
      have HZ1 := Lib.hid (And.intro hz1 hzs)
      have HZO := Lib.hid hzo
      obtain ⟨k0, k1, k2, k3, k4, k5, k6, k7, k8⟩ := op_cells hzo
      clear hw1 hz1 hzo hzs
      go_upto_region 13 with (fail)
      clear k0 k1 k2 k3 k4 k5 k6 k7 k8
      have hba : Below w1.heap.size w1 (w1.alloc (.cells #[.int .i64 o.m.gen, .int .i64 o.m.epoch, .int .i64 o.m.base, .int .i64 o.m.area, .int .i64 o.m.len, .slice o.A o.m.heads.length o.c] 91)) := (Below.refl _ _).alloc (Nat.le_refl _) _
      have hnx := heap_alloc_new w1 (.cells #[.int .i64 o.m.gen, .int .i64 o.m.epoch, .int .i64 o.m.base, .int .i64 o.m.area, .int .i64 o.m.len, .slice o.A o.m.heads.length o.c] 91)
      obtain ⟨w2, hw2⟩ : ∃ w2, w2 = w1.alloc (.cells #[.int .i64 o.m.gen, .int .i64 o.m.epoch, .int .i64 o.m.base, .int .i64 o.m.area, .int .i64 o.m.len, .slice o.A o.m.heads.length o.c] 91) := ⟨_, rfl⟩
      obtain ⟨nx, hz2⟩ : ∃ z, z = w1.heap.size := ⟨_, rfl⟩
      rw [← hw2] at hba hnx ⊢
      rw [← hz2] at hnx ⊢
      have HZ2 := Lib.hid hz2
      have HB2 := Lib.hid (HB1.out.trans (hba.mono HB1.out.size))
      have HNX := Lib.hid hnx
      have HZO2 := Lib.hid ((hba.block zo (Array.getElem?_eq_some_iff.1 HZO.out).1).trans HZO.out)
      have hnb2 := (HB2.out.block nb (Array.getElem?_eq_some_iff.1 HLP.out.blk).1).trans HLP.out.blk
      have HNB2 := Lib.hid hnb2
      have n0 : w2.cell? ⟨nb, 0, none⟩ = some (.int .i64 mq.gen) := (cell_of_row _ _ 0 _ _ (0, 0) hnb2).trans rfl
      have f0 := frozen_at hnx 0
      have x0 := (cell_of_row _ _ 0 _ _ (0, 0) hnx).trans rfl
      clear hw2 hz2 hba hnx hnb2
      have HGG := Lib.hid HLP.out.good
      have hgr : 1 ≤ mq.gen ∧ mq.gen ≤ 17179869183 := ⟨HGG.out.g1, HGG.out.g2⟩
      go_upto_region 14 with (fail)
      obtain ⟨F, p, f, hst, hpg, hps, hpa, hki, hlow, hfn⟩ := HLP.out.st
      obtain ⟨m2, hm2⟩ : ∃ m2 : Mf, m2 = ⟨mq.gen + 1, o.m.epoch, o.m.base, o.m.area, o.m.len, o.m.heads⟩ := ⟨_, rfl⟩
      have hgen : m2.gen = mq.gen + 1 := by rw [hm2]
      have hhd : m2.heads = o.m.heads := by rw [hm2]
      have hm3 : KpM w (w2.setCell ⟨nx, 0, none⟩ (.int .i64 (mq.gen + 1))) F g p [⟨3, f, []⟩] (q + 1) nb zo nx (mfC mq Aq cq) (mfC m2 o.A o.c) o := by
        have l1 := (Array.getElem?_eq_some_iff.1 HLP.out.blk).1
        have l2 := HLP.out.below.size
        have l3 := HLP.out.lo
        have l4 := HZ1.out
        have l5 := HZ2.out
        have hne : ∀ k, k < wr.heap.size → k ≠ nx := fun k hk => by omega
        refine ⟨(hst.below HB2.out).keep (G := fun k => k = nx) (G' := fun k => k = nx) ⟨rfl, rfl, rfl, by rw [World.size_setCell]; exact Nat.le_refl _, fun k _ hn => Deep.blk_setCell_other _ _ _ _ hn, fun k e => .inl e⟩ fun k hk e => hne k (hst.lt k hk) e, (HLP.out.below.trans (HB2.out.mono l2)).setCell (by show w.heap.size ≤ nx; omega) _, hlow, ⟨l3, by omega, by omega, by omega, by omega, by omega⟩, (Deep.blk_setCell_other _ _ _ _ (hne nb l1)).trans HNB2.out, (Deep.blk_setCell_other _ _ _ _ (show zo ≠ nx by omega)).trans HZO2.out, ?_, hfn, fun e => by have := hst.lt _ e; omega, fun e => by have := hst.lt _ e; omega⟩
        rw [hm2]
        simp [World.setCell, Array.getElem?_modify, HNX.out, mfC]
      have HKI := Lib.hid hki
      have HPP := Lib.hid (show p.gone = false ∧ p.steps ≤ 2 * q + 2 ∧ p.armed ≤ 9223372036854775807 from ⟨hpg, hps, hpa⟩)
      have HM3 := Lib.hid hm3
      have HHD := Lib.hid (And.intro hgen hhd)
      clear hst hpg hps hpa hki hlow hfn hm2 hm3 hgen hhd n0 f0 x0 hgr
      obtain ⟨w3, hw3⟩ : ∃ w3, w3 = w2.setCell ⟨nx, 0, none⟩ (.int .i64 (mq.gen + 1)) := ⟨_, rfl⟩
      rw [← hw3] at HM3 ⊢
      have HX2 := Lib.hid (show Zs w o.A m2.heads by rw [HHD.out.2]; exact HOO.out.2.1)
      have HX20 := Lib.hid (show m2.heads.length ≤ 20 by rw [HHD.out.2]; exact HSO.out.1)
      have HGC := Lib.hid (rfgood_any m2 o.A o.c w3 (RowAt.below HX2.out HM3.out.below) (by have := HX20.out; omega))
      unfold mfC at HGC
      obtain ⟨x0, x1, x2, x3, x4, x5⟩ := mf_cells HM3.out.nxk
      clear hw3 HZO HZO2 HB1 HB2 HNB2 HNX HZ1 HZ2
      go_wp2_with fail
      refine Calls.mono HGC.out ?_
      rintro e w4 ⟨rfl, hb4⟩
      have HM4 := Lib.hid (HM3.out.later hb4)
      clear hb4 HGC x0 x1 x2 x3 x4 x5
      cases hgb : goodB m2 with
      | false =>
        have hq40 := HQ.out
        go_wp2_with fail
        go_roundw
        case rel => exact ⟨q + 1, mq, Aq, cq, by go_num, by omega, HM4.out.lp rfl (by omega) HPP.out.1 (by have := HPP.out.2.1; omega) HPP.out.2.2 HKI.out rfl HLP.out.zs HLP.out.nil⟩
        case measure => simp [intOf]; omega
      | true =>
        have HG2 := Lib.hid ((goodB_iff m2).1 hgb)
        clear hgb
        obtain ⟨-, z1, -⟩ := op_cells HM4.out.zok
        have hon := HOO.out.1
        by_cases hneg : o.n < 0
        · have d2 : decide (0 ≤ o.n) = false := decide_eq_false (by omega)
          clear hneg hon
          go_upto_region 17 with (fail)
          have HM5 := Lib.hid HM4.out
          obtain ⟨p5, hp5⟩ : ∃ p5, p5 = p := ⟨_, rfl⟩
          rw [← hp5] at HM5 HPP
          have HP5 := Lib.hid HPP.out
          clear hp5 HPP HM4 z1 d2
          obtain ⟨x0, x1, x2, x3, x4, x5⟩ := mf_cells HM5.out.nxk
          have HPR := Lib.hid (program15_any m2 o.A o.c _ (RowAt.below HX2.out HM5.out.below) HOO.out.2.2.1 HX20.out)
          unfold mfC at HPR
          go_wp2_with fail
          refine Calls.mono HPR.out ?_
          rintro e w6 ⟨_, rfl, A6, c6, rfl, ho6, hb6⟩
          have hm6 := HM5.out.later hb6
          have HM6 := Lib.hid hm6
          have hsv := slsave_ok hm6.st HG2.out A6 c6 (zs_own (c := c6) ho6 rfl) (by show 1 ≤ 1000; decide) (by have := HQ.out; omega) (by have := HP5.out.2.1; have := HQ.out; omega) HP5.out.2.2
          have hcs := save_cases p5 f (m2.gen % 2) (secX m2 HG2.out)
          have hsu : Sound [⟨3, upd f (m2.gen % 2) (secX m2 HG2.out), []⟩] m2 m2 := sound_one (.inl (HKI.out.next HG2.out HHD.out.1))
          have hsf : Sound [⟨3, f, []⟩] mq m2 := sound_one (.inr ⟨HKI.out, by have := HHD.out.1; omega⟩)
          have hst : Sound [⟨3, f, [⟨m2.gen % 2, secX m2 HG2.out⟩]⟩] mq m2 := sound_torn HKI.out HG2.out HHD.out.1
          have hkn := HKI.out.next HG2.out HHD.out.1
          obtain ⟨x, hx⟩ : ∃ x, x = secX m2 HG2.out := ⟨_, rfl⟩
          rw [← hx] at hsv hcs hsu hst hkn
          obtain ⟨R, hR⟩ : ∃ R, R = saveG p5 [⟨3, f, []⟩] (m2.gen % 2) x := ⟨_, rfl⟩
          rw [← hR] at hsv hcs
          obtain ⟨r1, p7, ds7⟩ := R
          dsimp only at hsv hcs
          clear hR hx ho6 hb6 hm6 HPR x0 x1 x2 x3 x4 x5
          rcases hcs with ⟨rfl, rfl, e3, e4⟩ | ⟨rfl, e2, e4⟩
          · have HSV := Lib.hid hsv
            have HKN := Lib.hid hkn
            have HSU := Lib.hid hsu
            have HP7 := Lib.hid (And.intro e3 (show p7.steps ≤ 2 * q + 4 by have := HP5.out.2.1; omega))
            unfold mfC at HSV
            clear hsv hkn hsu hsf hst e3 e4
            go_wp2_with fail
            refine Calls.mono HSV.out ?_
            rintro e w7 ⟨rfl, F7, s7, c7⟩
            have HM7 := Lib.hid (HM6.out.act s7 c7)
            clear s7 c7 HSV HM6 HM5
            obtain ⟨x0, x1, x2, x3, x4, x5⟩ := mf_cells HM7.out.nxk
            obtain ⟨n0, n1, n2, n3, n4, n5⟩ := mf_cells HM7.out.nbk
            have f0 := frozen_at HM7.out.nbk 0
            have f1 := frozen_at HM7.out.nbk 1
            have f2 := frozen_at HM7.out.nbk 2
            have f3 := frozen_at HM7.out.nbk 3
            have f4 := frozen_at HM7.out.nbk 4
            have f5 := frozen_at HM7.out.nbk 5
            go_upto_region 19 with (fail)
            have hm8 := HM7.out.turn' m2 o.A o.c
            obtain ⟨w8, hw8⟩ : ∃ w8, w8 = ((((((w7.setCell ⟨nb, 0, none⟩ (.int .i64 m2.gen)).setCell ⟨nb, 1, none⟩ (.int .i64 m2.epoch)).setCell ⟨nb, 2, none⟩ (.int .i64 m2.base)).setCell ⟨nb, 3, none⟩ (.int .i64 m2.area)).setCell ⟨nb, 4, none⟩ (.int .i64 m2.len)).setCell ⟨nb, 5, none⟩ (.slice o.A m2.heads.length o.c)) := ⟨_, rfl⟩
            rw [← hw8] at hm8 ⊢
            have HM8 := Lib.hid hm8
            have hld := slload_any hm8.st (by show 1 ≤ 1000; decide) (by have := HQ.out; omega)
            rw [HKN.out.load p7 HP7.out.1] at hld
            have HLD := Lib.hid hld
            unfold LdE at HLD
            clear hw8 hm8 hld x0 x1 x2 x3 x4 x5 n0 n1 n2 n3 n4 n5 f0 f1 f2 f3 f4 f5 HM7
            go_wp2_with fail
            refine Calls.mono HLD.out ?_
            rintro e w9 ⟨⟨A9, c9, rfl, hz9⟩, hb9⟩
            have HM9 := Lib.hid (HM8.out.later hb9)
            have HZ9 := Lib.hid hz9
            unfold mfC
            clear hz9 hb9 HLD HM8
            go_upto_region 20 with (fail)
            have hba : Below w9.heap.size w9 (w9.alloc (.cells (mfC m2 A9 c9) 93)) := (Below.refl _ _).alloc (Nat.le_refl _) _
            have hnw := heap_alloc_new w9 (.cells (mfC m2 A9 c9) 93)
            have HM10 := Lib.hid (HM9.out.later hba)
            have hsm := same15_any m2 A9 o.A c9 o.c _ (RowAt.below HZ9.out hba) (RowAt.below HX2.out HM10.out.below) (by have := HX20.out; omega)
            have hdn := st_down HM10.out.st
            rw [HP7.out.1] at hdn
            obtain ⟨y0, y1, y2, y3, y4, y5⟩ := mf_cells hnw
            have hnb := HM10.out.nbk
            obtain ⟨n0, n1, n2, n3, n4, n5⟩ := mf_cells hnb
            have HSM := Lib.hid hsm
            have HDN := Lib.hid hdn
            unfold mfC at y0 y1 y2 y3 y4 y5 n0 n1 n2 n3 n4 n5 HSM HDN HM10
            clear hba hnw hsm hdn hnb HM9 HZ9
            go_wp2_with fail
            refine Calls.mono HDN.out ?_
            rintro e w11 ⟨rfl, rfl⟩
            go_wp2_with fail
            refine Calls.mono HSM.out ?_
            rintro e w11 ⟨rfl, hb11⟩
            have hm11 := HM10.out.later hb11
            clear hb11 HSM HDN HM10 y0 y1 y2 y3 y4 y5 n0 n1 n2 n3 n4 n5
            go_upto_region 22 with (fail)
            have HM11 := Lib.hid hm11
            have HSD := Lib.hid HSU.out
            have HP7' := Lib.hid HP7.out.2
            clear HP7 hm11
            have HP7 := HP7'
            clear HP7'
            obtain ⟨-, -, -, -, -, -, -, -, z8⟩ := op_cells HM11.out.zok
            obtain ⟨kl, hkl, hkn⟩ := HOO.out.2.2.2
            have hkc := keeps15_any o.B o.d kl _ (RowAt.below hkl HM11.out.below) (by rw [hkn]; have := HSO.out.2; omega)
            rw [hkn] at hkc
            have HKC := Lib.hid hkc
            have HKL := Lib.hid hkn
            clear hkl hkn hkc
            go_wp2_with fail
            refine Calls.mono HKC.out ?_
            rintro e w12 ⟨A12, c12, rfl, hk12, ha12, hb12⟩
            have HM12 := Lib.hid (HM11.out.later hb12)
            obtain ⟨f2, hf2, hks⟩ := HSD.out kl
            have hcr := st_crash HM12.out.st (by have := congrArg List.length hf2; simp [crashM] at this; simp; try omega) (by have := HQ.out; omega) A12 c12 kl (by rw [HKL.out]; have := HSO.out.2; omega) (fun w' hc => kps_keep hk12 hc (fun b o e => by
              have := ha12 _ e
              exact ⟨this.2, fun e2 => by have h1 := HM11.out.st.lt b e2; exact absurd h1 (Nat.not_lt_of_le this.1)⟩))
            rw [hf2, HKL.out] at hcr
            have HCR := Lib.hid hcr
            have HKS := Lib.hid hks
            clear hk12 ha12 hb12 hcr hf2 hks HKC HM11 z8
            go_wp2_with fail
            refine Calls.mono HCR.out ?_
            rintro e w13 ⟨rfl, s13, c13⟩
            have HM13 := Lib.hid (HM12.out.act s13 c13)
            clear s13 c13 HCR HM12
            rcases HKS.out with hk | ⟨hk, hne⟩
            · have hld := slload_any HM13.out.st (by show 1 ≤ 1000; decide) (by have := HQ.out; omega)
              rw [hk.load _ rfl] at hld
              have HLD := Lib.hid hld
              have HK := Lib.hid hk
              unfold LdE at HLD
              clear hld hk HKS
              go_wp2_with fail
              refine Calls.mono HLD.out ?_
              rintro e w14 ⟨⟨A14, c14, rfl, hz14⟩, hb14⟩
              have HM14 := Lib.hid (HM13.out.later hb14)
              have HZ14 := Lib.hid hz14
              unfold mfC
              clear hz14 hb14 HLD HM13
              go_upto_region 24 with (fail)
              have hba : Below w14.heap.size w14 (w14.alloc (.cells (mfC m2 A14 c14) 93)) := (Below.refl _ _).alloc (Nat.le_refl _) _
              have hnw := heap_alloc_new w14 (.cells (mfC m2 A14 c14) 93)
              have HM15 := Lib.hid (HM14.out.later hba)
              have hsm := same15_any m2 A14 o.A c14 o.c _ (RowAt.below HZ14.out hba) (RowAt.below HX2.out HM15.out.below) (by have := HX20.out; omega)
              obtain ⟨y0, y1, y2, y3, y4, y5⟩ := mf_cells hnw
              have hnx := HM15.out.nxk
              obtain ⟨x0, x1, x2, x3, x4, x5⟩ := mf_cells hnx
              have HSM := Lib.hid hsm
              unfold mfC at y0 y1 y2 y3 y4 y5 x0 x1 x2 x3 x4 x5 HSM
              clear hba hnw hsm hnx HM14 HZ14
              go_wp2_with fail
              refine Calls.mono HSM.out ?_
              rintro e w16 ⟨rfl, hb16⟩
              have HM16 := Lib.hid (HM15.out.later hb16)
              clear hb16 HSM HM15 y0 y1 y2 y3 y4 y5 x0 x1 x2 x3 x4 x5
              obtain ⟨x0, x1, x2, x3, x4, x5⟩ := mf_cells HM16.out.nxk
              obtain ⟨n0, n1, n2, n3, n4, n5⟩ := mf_cells HM16.out.nbk
              have f0 := frozen_at HM16.out.nbk 0
              have f1 := frozen_at HM16.out.nbk 1
              have f2' := frozen_at HM16.out.nbk 2
              have f3 := frozen_at HM16.out.nbk 3
              have f4 := frozen_at HM16.out.nbk 4
              have f5 := frozen_at HM16.out.nbk 5
              have HM17 := Lib.hid (HM16.out.turn' m2 o.A o.c)
              have hq40 := HQ.out
              go_wp2_with fail
              go_roundw
              case rel => exact ⟨q + 1, m2, o.A, o.c, by go_num, by omega, HM17.out.lp rfl (by omega) rfl (by show p7.steps ≤ _; have := HP7.out; omega) (by show 0 ≤ _; omega) HK.out rfl HX2.out HOO.out.2.2.1⟩
              case measure => simp [intOf]; omega
            · exact absurd rfl hne
          · have HSD := Lib.hid (show Sound ds7 mq m2 by
              rcases e2 with rfl | rfl
              · exact hsf
              · exact hst)
            have HSV := Lib.hid hsv
            have HP7 := Lib.hid (show p7.steps ≤ 2 * q + 4 by have := HP5.out.2.1; omega)
            unfold mfC eDown at HSV
            clear hsv hkn hsu hsf hst e2 e4
            go_wp2_with fail
            refine Calls.mono HSV.out ?_
            rintro e w7 ⟨rfl, F7, s7, c7⟩
            have HM11 := Lib.hid (HM6.out.act s7 c7)
            clear s7 c7 HSV HM6 HM5
            go_upto_region 22 with (fail)
            obtain ⟨-, -, -, -, -, -, -, -, z8⟩ := op_cells HM11.out.zok
            obtain ⟨kl, hkl, hkn⟩ := HOO.out.2.2.2
            have hkc := keeps15_any o.B o.d kl _ (RowAt.below hkl HM11.out.below) (by rw [hkn]; have := HSO.out.2; omega)
            rw [hkn] at hkc
            have HKC := Lib.hid hkc
            have HKL := Lib.hid hkn
            clear hkl hkn hkc
            go_wp2_with fail
            refine Calls.mono HKC.out ?_
            rintro e w12 ⟨A12, c12, rfl, hk12, ha12, hb12⟩
            have HM12 := Lib.hid (HM11.out.later hb12)
            obtain ⟨f2, hf2, hks⟩ := HSD.out kl
            have hcr := st_crash HM12.out.st (by have := congrArg List.length hf2; simp [crashM] at this; simp; try omega) (by have := HQ.out; omega) A12 c12 kl (by rw [HKL.out]; have := HSO.out.2; omega) (fun w' hc => kps_keep hk12 hc (fun b o e => by
              have := ha12 _ e
              exact ⟨this.2, fun e2 => by have h1 := HM11.out.st.lt b e2; exact absurd h1 (Nat.not_lt_of_le this.1)⟩))
            rw [hf2, HKL.out] at hcr
            have HCR := Lib.hid hcr
            have HKS := Lib.hid hks
            clear hk12 ha12 hb12 hcr hf2 hks HKC HM11 z8
            go_wp2_with fail
            refine Calls.mono HCR.out ?_
            rintro e w13 ⟨rfl, s13, c13⟩
            have HM13 := Lib.hid (HM12.out.act s13 c13)
            clear s13 c13 HCR HM12
            rcases HKS.out with hk | ⟨hk, hne⟩
            · have hld := slload_any HM13.out.st (by show 1 ≤ 1000; decide) (by have := HQ.out; omega)
              rw [hk.load _ rfl] at hld
              have HLD := Lib.hid hld
              have HK := Lib.hid hk
              unfold LdE at HLD
              clear hld hk HKS
              go_wp2_with fail
              refine Calls.mono HLD.out ?_
              rintro e w14 ⟨⟨A14, c14, rfl, hz14⟩, hb14⟩
              have HM14 := Lib.hid (HM13.out.later hb14)
              have HZ14 := Lib.hid hz14
              unfold mfC
              clear hz14 hb14 HLD HM13
              go_upto_region 24 with (fail)
              have hba : Below w14.heap.size w14 (w14.alloc (.cells (mfC m2 A14 c14) 93)) := (Below.refl _ _).alloc (Nat.le_refl _) _
              have hnw := heap_alloc_new w14 (.cells (mfC m2 A14 c14) 93)
              have HM15 := Lib.hid (HM14.out.later hba)
              have hsm := same15_any m2 A14 o.A c14 o.c _ (RowAt.below HZ14.out hba) (RowAt.below HX2.out HM15.out.below) (by have := HX20.out; omega)
              obtain ⟨y0, y1, y2, y3, y4, y5⟩ := mf_cells hnw
              have hnx := HM15.out.nxk
              obtain ⟨x0, x1, x2, x3, x4, x5⟩ := mf_cells hnx
              have HSM := Lib.hid hsm
              unfold mfC at y0 y1 y2 y3 y4 y5 x0 x1 x2 x3 x4 x5 HSM
              clear hba hnw hsm hnx HM14 HZ14
              go_wp2_with fail
              refine Calls.mono HSM.out ?_
              rintro e w16 ⟨rfl, hb16⟩
              have HM16 := Lib.hid (HM15.out.later hb16)
              clear hb16 HSM HM15 y0 y1 y2 y3 y4 y5 x0 x1 x2 x3 x4 x5
              obtain ⟨x0, x1, x2, x3, x4, x5⟩ := mf_cells HM16.out.nxk
              obtain ⟨n0, n1, n2, n3, n4, n5⟩ := mf_cells HM16.out.nbk
              have f0 := frozen_at HM16.out.nbk 0
              have f1 := frozen_at HM16.out.nbk 1
              have f2' := frozen_at HM16.out.nbk 2
              have f3 := frozen_at HM16.out.nbk 3
              have f4 := frozen_at HM16.out.nbk 4
              have f5 := frozen_at HM16.out.nbk 5
              have HM17 := Lib.hid (HM16.out.turn' m2 o.A o.c)
              have hq40 := HQ.out
              go_wp2_with fail
              go_roundw
              case rel => exact ⟨q + 1, m2, o.A, o.c, by go_num, by omega, HM17.out.lp rfl (by omega) rfl (by show p7.steps ≤ _; have := HP7.out; omega) (by show 0 ≤ _; omega) HK.out rfl HX2.out HOO.out.2.2.1⟩
              case measure => simp [intOf]; omega
            · have hld := slload_any HM13.out.st (by show 1 ≤ 1000; decide) (by have := HQ.out; omega)
              rw [hk.load _ rfl] at hld
              have HLD := Lib.hid hld
              have HK := Lib.hid hk
              have HNE := Lib.hid hne
              unfold LdE at HLD
              clear hld hk HKS hne
              go_wp2_with fail
              refine Calls.mono HLD.out ?_
              rintro e w14 ⟨⟨A14, c14, rfl, hz14⟩, hb14⟩
              have HM14 := Lib.hid (HM13.out.later hb14)
              have HZ14 := Lib.hid hz14
              unfold mfC
              clear hz14 hb14 HLD HM13
              go_upto_region 24 with (fail)
              have hba : Below w14.heap.size w14 (w14.alloc (.cells (mfC mq A14 c14) 93)) := (Below.refl _ _).alloc (Nat.le_refl _) _
              have hnw := heap_alloc_new w14 (.cells (mfC mq A14 c14) 93)
              have HM15 := Lib.hid (HM14.out.later hba)
              have HZ15 := Lib.hid (RowAt.below HZ14.out hba)
              have hsm := same15_ne mq m2 A14 o.A c14 o.c (w14.alloc (.cells (mfC mq A14 c14) 93)) HNE.out
              obtain ⟨y0, y1, y2, y3, y4, y5⟩ := mf_cells hnw
              have hnx := HM15.out.nxk
              obtain ⟨x0, x1, x2, x3, x4, x5⟩ := mf_cells hnx
              have HSM := Lib.hid hsm
              have HNW := Lib.hid hnw
              unfold mfC at y0 y1 y2 y3 y4 y5 x0 x1 x2 x3 x4 x5 HSM
              clear hba hnw hsm hnx HM14 HZ14
              go_wp2_with fail
              refine Calls.mono HSM.out ?_
              rintro e w16 ⟨rfl, hb16⟩
              have HM16 := Lib.hid (HM15.out.later hb16)
              have hny := (hb16.block _ (Array.getElem?_eq_some_iff.1 HNW.out).1).trans HNW.out
              have hsm := same15_any mq A14 Aq c14 cq w16 (RowAt.below HZ15.out hb16) (RowAt.below HLP.out.zs HM16.out.below) (by have := HLP.out.good.h2; omega)
              clear HSM HM15 y0 y1 y2 y3 y4 y5 x0 x1 x2 x3 x4 x5
              obtain ⟨y0, y1, y2, y3, y4, y5⟩ := mf_cells hny
              have hnb := HM16.out.nbk
              obtain ⟨n0, n1, n2, n3, n4, n5⟩ := mf_cells hnb
              have HSM := Lib.hid hsm
              unfold mfC at HSM
              clear hb16 hny hsm hnb HNW HZ15
              go_wp2_with fail
              refine Calls.mono HSM.out ?_
              rintro e w17 ⟨rfl, hb17⟩
              have HM17 := Lib.hid (HM16.out.later hb17)
              clear hb17 HSM HM16 y0 y1 y2 y3 y4 y5 n0 n1 n2 n3 n4 n5
              have hq40 := HQ.out
              go_wp2_with fail
              go_roundw
              case rel => exact ⟨q + 1, mq, Aq, cq, by go_num, by omega, HM17.out.lp rfl (by omega) rfl (by show p7.steps ≤ _; have := HP7.out; omega) (by show 0 ≤ _; omega) HK.out rfl HLP.out.zs HLP.out.nil⟩
              case measure => simp [intOf]; omega
        · have d2 : decide (0 ≤ o.n) = true := decide_eq_true (by omega)
          have har := st_arm HM4.out.st o.n.toNat (by omega)
          rw [show ((o.n.toNat : Nat) : Int) = o.n by omega] at har
          have HAR := Lib.hid har
          have HT := Lib.hid (show o.n.toNat ≤ 9223372036854775807 by omega)
          clear hneg hon har
          go_wp2_with fail
          refine Calls.mono HAR.out ?_
          rintro e w5 ⟨rfl, s5, c5⟩
          have HM5 := Lib.hid (HM4.out.act s5 c5)
          obtain ⟨p5, hp5⟩ : ∃ p5 : Pw, p5 = { p with armed := o.n.toNat, ia := true } := ⟨_, rfl⟩
          rw [← hp5] at HM5
          have HP5 := Lib.hid (show p5.gone = false ∧ p5.steps ≤ 2 * q + 2 ∧ p5.armed ≤ 9223372036854775807 by rw [hp5]; exact ⟨HPP.out.1, HPP.out.2.1, HT.out⟩)
          clear s5 c5 hp5 HPP HM4 z1 d2 HAR HT
          go_upto_region 17 with (fail)
          obtain ⟨x0, x1, x2, x3, x4, x5⟩ := mf_cells HM5.out.nxk
          have HPR := Lib.hid (program15_any m2 o.A o.c _ (RowAt.below HX2.out HM5.out.below) HOO.out.2.2.1 HX20.out)
          unfold mfC at HPR
          go_wp2_with fail
          refine Calls.mono HPR.out ?_
          rintro e w6 ⟨_, rfl, A6, c6, rfl, ho6, hb6⟩
          have hm6 := HM5.out.later hb6
          have HM6 := Lib.hid hm6
          have hsv := slsave_ok hm6.st HG2.out A6 c6 (zs_own (c := c6) ho6 rfl) (by show 1 ≤ 1000; decide) (by have := HQ.out; omega) (by have := HP5.out.2.1; have := HQ.out; omega) HP5.out.2.2
          have hcs := save_cases p5 f (m2.gen % 2) (secX m2 HG2.out)
          have hsu : Sound [⟨3, upd f (m2.gen % 2) (secX m2 HG2.out), []⟩] m2 m2 := sound_one (.inl (HKI.out.next HG2.out HHD.out.1))
          have hsf : Sound [⟨3, f, []⟩] mq m2 := sound_one (.inr ⟨HKI.out, by have := HHD.out.1; omega⟩)
          have hst : Sound [⟨3, f, [⟨m2.gen % 2, secX m2 HG2.out⟩]⟩] mq m2 := sound_torn HKI.out HG2.out HHD.out.1
          have hkn := HKI.out.next HG2.out HHD.out.1
          obtain ⟨x, hx⟩ : ∃ x, x = secX m2 HG2.out := ⟨_, rfl⟩
          rw [← hx] at hsv hcs hsu hst hkn
          obtain ⟨R, hR⟩ : ∃ R, R = saveG p5 [⟨3, f, []⟩] (m2.gen % 2) x := ⟨_, rfl⟩
          rw [← hR] at hsv hcs
          obtain ⟨r1, p7, ds7⟩ := R
          dsimp only at hsv hcs
          clear hR hx ho6 hb6 hm6 HPR x0 x1 x2 x3 x4 x5
          rcases hcs with ⟨rfl, rfl, e3, e4⟩ | ⟨rfl, e2, e4⟩
          · have HSV := Lib.hid hsv
            have HKN := Lib.hid hkn
            have HSU := Lib.hid hsu
            have HP7 := Lib.hid (And.intro e3 (show p7.steps ≤ 2 * q + 4 by have := HP5.out.2.1; omega))
            unfold mfC at HSV
            clear hsv hkn hsu hsf hst e3 e4
            go_wp2_with fail
            refine Calls.mono HSV.out ?_
            rintro e w7 ⟨rfl, F7, s7, c7⟩
            have HM7 := Lib.hid (HM6.out.act s7 c7)
            clear s7 c7 HSV HM6 HM5
            obtain ⟨x0, x1, x2, x3, x4, x5⟩ := mf_cells HM7.out.nxk
            obtain ⟨n0, n1, n2, n3, n4, n5⟩ := mf_cells HM7.out.nbk
            have f0 := frozen_at HM7.out.nbk 0
            have f1 := frozen_at HM7.out.nbk 1
            have f2 := frozen_at HM7.out.nbk 2
            have f3 := frozen_at HM7.out.nbk 3
            have f4 := frozen_at HM7.out.nbk 4
            have f5 := frozen_at HM7.out.nbk 5
            go_upto_region 19 with (fail)
            have hm8 := HM7.out.turn' m2 o.A o.c
            obtain ⟨w8, hw8⟩ : ∃ w8, w8 = ((((((w7.setCell ⟨nb, 0, none⟩ (.int .i64 m2.gen)).setCell ⟨nb, 1, none⟩ (.int .i64 m2.epoch)).setCell ⟨nb, 2, none⟩ (.int .i64 m2.base)).setCell ⟨nb, 3, none⟩ (.int .i64 m2.area)).setCell ⟨nb, 4, none⟩ (.int .i64 m2.len)).setCell ⟨nb, 5, none⟩ (.slice o.A m2.heads.length o.c)) := ⟨_, rfl⟩
            rw [← hw8] at hm8 ⊢
            have HM8 := Lib.hid hm8
            have hld := slload_any hm8.st (by show 1 ≤ 1000; decide) (by have := HQ.out; omega)
            rw [HKN.out.load p7 HP7.out.1] at hld
            have HLD := Lib.hid hld
            unfold LdE at HLD
            clear hw8 hm8 hld x0 x1 x2 x3 x4 x5 n0 n1 n2 n3 n4 n5 f0 f1 f2 f3 f4 f5 HM7
            go_wp2_with fail
            refine Calls.mono HLD.out ?_
            rintro e w9 ⟨⟨A9, c9, rfl, hz9⟩, hb9⟩
            have HM9 := Lib.hid (HM8.out.later hb9)
            have HZ9 := Lib.hid hz9
            unfold mfC
            clear hz9 hb9 HLD HM8
            go_upto_region 20 with (fail)
            have hba : Below w9.heap.size w9 (w9.alloc (.cells (mfC m2 A9 c9) 93)) := (Below.refl _ _).alloc (Nat.le_refl _) _
            have hnw := heap_alloc_new w9 (.cells (mfC m2 A9 c9) 93)
            have HM10 := Lib.hid (HM9.out.later hba)
            have hsm := same15_any m2 A9 o.A c9 o.c _ (RowAt.below HZ9.out hba) (RowAt.below HX2.out HM10.out.below) (by have := HX20.out; omega)
            have hdn := st_down HM10.out.st
            rw [HP7.out.1] at hdn
            obtain ⟨y0, y1, y2, y3, y4, y5⟩ := mf_cells hnw
            have hnb := HM10.out.nbk
            obtain ⟨n0, n1, n2, n3, n4, n5⟩ := mf_cells hnb
            have HSM := Lib.hid hsm
            have HDN := Lib.hid hdn
            unfold mfC at y0 y1 y2 y3 y4 y5 n0 n1 n2 n3 n4 n5 HSM HDN HM10
            clear hba hnw hsm hdn hnb HM9 HZ9
            go_wp2_with fail
            refine Calls.mono HDN.out ?_
            rintro e w11 ⟨rfl, rfl⟩
            go_wp2_with fail
            refine Calls.mono HSM.out ?_
            rintro e w11 ⟨rfl, hb11⟩
            have hm11 := HM10.out.later hb11
            clear hb11 HSM HDN HM10 y0 y1 y2 y3 y4 y5 n0 n1 n2 n3 n4 n5
            go_upto_region 22 with (fail)
            have HM11 := Lib.hid hm11
            have HSD := Lib.hid HSU.out
            have HP7' := Lib.hid HP7.out.2
            clear HP7 hm11
            have HP7 := HP7'
            clear HP7'
            obtain ⟨-, -, -, -, -, -, -, -, z8⟩ := op_cells HM11.out.zok
            obtain ⟨kl, hkl, hkn⟩ := HOO.out.2.2.2
            have hkc := keeps15_any o.B o.d kl _ (RowAt.below hkl HM11.out.below) (by rw [hkn]; have := HSO.out.2; omega)
            rw [hkn] at hkc
            have HKC := Lib.hid hkc
            have HKL := Lib.hid hkn
            clear hkl hkn hkc
            go_wp2_with fail
            refine Calls.mono HKC.out ?_
            rintro e w12 ⟨A12, c12, rfl, hk12, ha12, hb12⟩
            have HM12 := Lib.hid (HM11.out.later hb12)
            obtain ⟨f2, hf2, hks⟩ := HSD.out kl
            have hcr := st_crash HM12.out.st (by have := congrArg List.length hf2; simp [crashM] at this; simp; try omega) (by have := HQ.out; omega) A12 c12 kl (by rw [HKL.out]; have := HSO.out.2; omega) (fun w' hc => kps_keep hk12 hc (fun b o e => by
              have := ha12 _ e
              exact ⟨this.2, fun e2 => by have h1 := HM11.out.st.lt b e2; exact absurd h1 (Nat.not_lt_of_le this.1)⟩))
            rw [hf2, HKL.out] at hcr
            have HCR := Lib.hid hcr
            have HKS := Lib.hid hks
            clear hk12 ha12 hb12 hcr hf2 hks HKC HM11 z8
            go_wp2_with fail
            refine Calls.mono HCR.out ?_
            rintro e w13 ⟨rfl, s13, c13⟩
            have HM13 := Lib.hid (HM12.out.act s13 c13)
            clear s13 c13 HCR HM12
            rcases HKS.out with hk | ⟨hk, hne⟩
            · have hld := slload_any HM13.out.st (by show 1 ≤ 1000; decide) (by have := HQ.out; omega)
              rw [hk.load _ rfl] at hld
              have HLD := Lib.hid hld
              have HK := Lib.hid hk
              unfold LdE at HLD
              clear hld hk HKS
              go_wp2_with fail
              refine Calls.mono HLD.out ?_
              rintro e w14 ⟨⟨A14, c14, rfl, hz14⟩, hb14⟩
              have HM14 := Lib.hid (HM13.out.later hb14)
              have HZ14 := Lib.hid hz14
              unfold mfC
              clear hz14 hb14 HLD HM13
              go_upto_region 24 with (fail)
              have hba : Below w14.heap.size w14 (w14.alloc (.cells (mfC m2 A14 c14) 93)) := (Below.refl _ _).alloc (Nat.le_refl _) _
              have hnw := heap_alloc_new w14 (.cells (mfC m2 A14 c14) 93)
              have HM15 := Lib.hid (HM14.out.later hba)
              have hsm := same15_any m2 A14 o.A c14 o.c _ (RowAt.below HZ14.out hba) (RowAt.below HX2.out HM15.out.below) (by have := HX20.out; omega)
              obtain ⟨y0, y1, y2, y3, y4, y5⟩ := mf_cells hnw
              have hnx := HM15.out.nxk
              obtain ⟨x0, x1, x2, x3, x4, x5⟩ := mf_cells hnx
              have HSM := Lib.hid hsm
              unfold mfC at y0 y1 y2 y3 y4 y5 x0 x1 x2 x3 x4 x5 HSM
              clear hba hnw hsm hnx HM14 HZ14
              go_wp2_with fail
              refine Calls.mono HSM.out ?_
              rintro e w16 ⟨rfl, hb16⟩
              have HM16 := Lib.hid (HM15.out.later hb16)
              clear hb16 HSM HM15 y0 y1 y2 y3 y4 y5 x0 x1 x2 x3 x4 x5
              obtain ⟨x0, x1, x2, x3, x4, x5⟩ := mf_cells HM16.out.nxk
              obtain ⟨n0, n1, n2, n3, n4, n5⟩ := mf_cells HM16.out.nbk
              have f0 := frozen_at HM16.out.nbk 0
              have f1 := frozen_at HM16.out.nbk 1
              have f2' := frozen_at HM16.out.nbk 2
              have f3 := frozen_at HM16.out.nbk 3
              have f4 := frozen_at HM16.out.nbk 4
              have f5 := frozen_at HM16.out.nbk 5
              have HM17 := Lib.hid (HM16.out.turn' m2 o.A o.c)
              have hq40 := HQ.out
              go_wp2_with fail
              go_roundw
              case rel => exact ⟨q + 1, m2, o.A, o.c, by go_num, by omega, HM17.out.lp rfl (by omega) rfl (by show p7.steps ≤ _; have := HP7.out; omega) (by show 0 ≤ _; omega) HK.out rfl HX2.out HOO.out.2.2.1⟩
              case measure => simp [intOf]; omega
            · exact absurd rfl hne
          · have HSD := Lib.hid (show Sound ds7 mq m2 by
              rcases e2 with rfl | rfl
              · exact hsf
              · exact hst)
            have HSV := Lib.hid hsv
            have HP7 := Lib.hid (show p7.steps ≤ 2 * q + 4 by have := HP5.out.2.1; omega)
            unfold mfC eDown at HSV
            clear hsv hkn hsu hsf hst e2 e4
            go_wp2_with fail
            refine Calls.mono HSV.out ?_
            rintro e w7 ⟨rfl, F7, s7, c7⟩
            have HM11 := Lib.hid (HM6.out.act s7 c7)
            clear s7 c7 HSV HM6 HM5
            go_upto_region 22 with (fail)
            obtain ⟨-, -, -, -, -, -, -, -, z8⟩ := op_cells HM11.out.zok
            obtain ⟨kl, hkl, hkn⟩ := HOO.out.2.2.2
            have hkc := keeps15_any o.B o.d kl _ (RowAt.below hkl HM11.out.below) (by rw [hkn]; have := HSO.out.2; omega)
            rw [hkn] at hkc
            have HKC := Lib.hid hkc
            have HKL := Lib.hid hkn
            clear hkl hkn hkc
            go_wp2_with fail
            refine Calls.mono HKC.out ?_
            rintro e w12 ⟨A12, c12, rfl, hk12, ha12, hb12⟩
            have HM12 := Lib.hid (HM11.out.later hb12)
            obtain ⟨f2, hf2, hks⟩ := HSD.out kl
            have hcr := st_crash HM12.out.st (by have := congrArg List.length hf2; simp [crashM] at this; simp; try omega) (by have := HQ.out; omega) A12 c12 kl (by rw [HKL.out]; have := HSO.out.2; omega) (fun w' hc => kps_keep hk12 hc (fun b o e => by
              have := ha12 _ e
              exact ⟨this.2, fun e2 => by have h1 := HM11.out.st.lt b e2; exact absurd h1 (Nat.not_lt_of_le this.1)⟩))
            rw [hf2, HKL.out] at hcr
            have HCR := Lib.hid hcr
            have HKS := Lib.hid hks
            clear hk12 ha12 hb12 hcr hf2 hks HKC HM11 z8
            go_wp2_with fail
            refine Calls.mono HCR.out ?_
            rintro e w13 ⟨rfl, s13, c13⟩
            have HM13 := Lib.hid (HM12.out.act s13 c13)
            clear s13 c13 HCR HM12
            rcases HKS.out with hk | ⟨hk, hne⟩
            · have hld := slload_any HM13.out.st (by show 1 ≤ 1000; decide) (by have := HQ.out; omega)
              rw [hk.load _ rfl] at hld
              have HLD := Lib.hid hld
              have HK := Lib.hid hk
              unfold LdE at HLD
              clear hld hk HKS
              go_wp2_with fail
              refine Calls.mono HLD.out ?_
              rintro e w14 ⟨⟨A14, c14, rfl, hz14⟩, hb14⟩
              have HM14 := Lib.hid (HM13.out.later hb14)
              have HZ14 := Lib.hid hz14
              unfold mfC
              clear hz14 hb14 HLD HM13
              go_upto_region 24 with (fail)
              have hba : Below w14.heap.size w14 (w14.alloc (.cells (mfC m2 A14 c14) 93)) := (Below.refl _ _).alloc (Nat.le_refl _) _
              have hnw := heap_alloc_new w14 (.cells (mfC m2 A14 c14) 93)
              have HM15 := Lib.hid (HM14.out.later hba)
              have hsm := same15_any m2 A14 o.A c14 o.c _ (RowAt.below HZ14.out hba) (RowAt.below HX2.out HM15.out.below) (by have := HX20.out; omega)
              obtain ⟨y0, y1, y2, y3, y4, y5⟩ := mf_cells hnw
              have hnx := HM15.out.nxk
              obtain ⟨x0, x1, x2, x3, x4, x5⟩ := mf_cells hnx
              have HSM := Lib.hid hsm
              unfold mfC at y0 y1 y2 y3 y4 y5 x0 x1 x2 x3 x4 x5 HSM
              clear hba hnw hsm hnx HM14 HZ14
              go_wp2_with fail
              refine Calls.mono HSM.out ?_
              rintro e w16 ⟨rfl, hb16⟩
              have HM16 := Lib.hid (HM15.out.later hb16)
              clear hb16 HSM HM15 y0 y1 y2 y3 y4 y5 x0 x1 x2 x3 x4 x5
              obtain ⟨x0, x1, x2, x3, x4, x5⟩ := mf_cells HM16.out.nxk
              obtain ⟨n0, n1, n2, n3, n4, n5⟩ := mf_cells HM16.out.nbk
              have f0 := frozen_at HM16.out.nbk 0
              have f1 := frozen_at HM16.out.nbk 1
              have f2' := frozen_at HM16.out.nbk 2
              have f3 := frozen_at HM16.out.nbk 3
              have f4 := frozen_at HM16.out.nbk 4
              have f5 := frozen_at HM16.out.nbk 5
              have HM17 := Lib.hid (HM16.out.turn' m2 o.A o.c)
              have hq40 := HQ.out
              go_wp2_with fail
              go_roundw
              case rel => exact ⟨q + 1, m2, o.A, o.c, by go_num, by omega, HM17.out.lp rfl (by omega) rfl (by show p7.steps ≤ _; have := HP7.out; omega) (by show 0 ≤ _; omega) HK.out rfl HX2.out HOO.out.2.2.1⟩
              case measure => simp [intOf]; omega
            · have hld := slload_any HM13.out.st (by show 1 ≤ 1000; decide) (by have := HQ.out; omega)
              rw [hk.load _ rfl] at hld
              have HLD := Lib.hid hld
              have HK := Lib.hid hk
              have HNE := Lib.hid hne
              unfold LdE at HLD
              clear hld hk HKS hne
              go_wp2_with fail
              refine Calls.mono HLD.out ?_
              rintro e w14 ⟨⟨A14, c14, rfl, hz14⟩, hb14⟩
              have HM14 := Lib.hid (HM13.out.later hb14)
              have HZ14 := Lib.hid hz14
              unfold mfC
              clear hz14 hb14 HLD HM13
              go_upto_region 24 with (fail)
              have hba : Below w14.heap.size w14 (w14.alloc (.cells (mfC mq A14 c14) 93)) := (Below.refl _ _).alloc (Nat.le_refl _) _
              have hnw := heap_alloc_new w14 (.cells (mfC mq A14 c14) 93)
              have HM15 := Lib.hid (HM14.out.later hba)
              have HZ15 := Lib.hid (RowAt.below HZ14.out hba)
              have hsm := same15_ne mq m2 A14 o.A c14 o.c (w14.alloc (.cells (mfC mq A14 c14) 93)) HNE.out
              obtain ⟨y0, y1, y2, y3, y4, y5⟩ := mf_cells hnw
              have hnx := HM15.out.nxk
              obtain ⟨x0, x1, x2, x3, x4, x5⟩ := mf_cells hnx
              have HSM := Lib.hid hsm
              have HNW := Lib.hid hnw
              unfold mfC at y0 y1 y2 y3 y4 y5 x0 x1 x2 x3 x4 x5 HSM
              clear hba hnw hsm hnx HM14 HZ14
              go_wp2_with fail
              refine Calls.mono HSM.out ?_
              rintro e w16 ⟨rfl, hb16⟩
              have HM16 := Lib.hid (HM15.out.later hb16)
              have hny := (hb16.block _ (Array.getElem?_eq_some_iff.1 HNW.out).1).trans HNW.out
              have hsm := same15_any mq A14 Aq c14 cq w16 (RowAt.below HZ15.out hb16) (RowAt.below HLP.out.zs HM16.out.below) (by have := HLP.out.good.h2; omega)
              clear HSM HM15 y0 y1 y2 y3 y4 y5 x0 x1 x2 x3 x4 x5
              obtain ⟨y0, y1, y2, y3, y4, y5⟩ := mf_cells hny
              have hnb := HM16.out.nbk
              obtain ⟨n0, n1, n2, n3, n4, n5⟩ := mf_cells hnb
              have HSM := Lib.hid hsm
              unfold mfC at HSM
              clear hb16 hny hsm hnb HNW HZ15
              go_wp2_with fail
              refine Calls.mono HSM.out ?_
              rintro e w17 ⟨rfl, hb17⟩
              have HM17 := Lib.hid (HM16.out.later hb17)
              clear hb17 HSM HM16 y0 y1 y2 y3 y4 y5 n0 n1 n2 n3 n4 n5
              have hq40 := HQ.out
              go_wp2_with fail
              go_roundw
              case rel => exact ⟨q + 1, mq, Aq, cq, by go_num, by omega, HM17.out.lp rfl (by omega) rfl (by show p7.steps ≤ _; have := HP7.out; omega) (by show 0 ≤ _; omega) HK.out rfl HLP.out.zs HLP.out.nil⟩
              case measure => simp [intOf]; omega
    · obtain rfl : q = n := by omega
      clear hlp
      go_wp2_with fail
      go_ret
      exact ⟨rfl, HLP.out.below⟩
end Go.Proofs.Ytjmjehhmkjhalaa
