/- WireNone answers true of whatever value and kinds. -/
import Derived.Test.YtlegaajacmjejaaErr
import Derived.Test.YtlegaajacmjejaaVals
import Derived.Test.YtlegaajacmjejaaNil
import Derived.Test.YtlegaajacmjejaaAlive
namespace Go.Proofs.Ytlegaajacmjejaa
set_option maxRecDepth 100000
open Go.RowKit

def valsI (ks : List Int) : List Value := ks.map fun z => Value.int .i64 z
theorem valsI_length (ks : List Int) : (valsI ks).length = ks.length := by simp [valsI]
theorem Rdv.intAt {w : World} {A : Option Addr} {n : Nat} {ks : List Int} (h : Rdv w A n 1 (valsI ks)) (hn : 0 < n) : ks.length = n ∧ ∃ b off, A = some ⟨b, off, none⟩ ∧ ∀ j (hj : j < ks.length), w.cell? ⟨b, off + j, none⟩ = some (.int .i64 ks[j]) := by
  refine ⟨by have := h.1; rw [valsI_length] at this; omega, ?_⟩
  obtain ⟨b, off, e, hc⟩ := h.2 hn
  exact ⟨b, off, e, fun j hj => hc j _ (by simp [valsI, hj])⟩

theorem vals_one (w : World) (v : VV) (h : VOk w v) : Vals (w.alloc (.cells #[.int .i64 v.k, .int .i64 v.n, .int .u64 (v.u : Int), .slice v.A v.m v.c] 31)) (some ⟨w.heap.size, 0, none⟩) 1 [v] := by
  have hb := heap_alloc_new w (.cells #[.int .i64 v.k, .int .i64 v.n, .int .u64 (v.u : Int), .slice v.A v.m v.c] 31 (0, 0))
  refine ⟨rfl, fun _ => ⟨_, _, rfl, fun j hj => ?_⟩, fun x hx => ?_⟩
  · obtain rfl : j = 0 := by simpa using hj
    exact ⟨cell_of_row _ _ 0 _ 31 (0, 0) hb, cell_of_row _ _ 1 _ 31 (0, 0) hb, cell_of_row _ _ 2 _ 31 (0, 0) hb, cell_of_row _ _ 3 _ 31 (0, 0) hb⟩
  · rw [List.mem_singleton] at hx
    subst hx
    exact h.ext (fun p hp => World.cell?_alloc_lt w _ p hp)
theorem TwoB.below {w w' : World} {V : Value} {g M : Nat} (h : TwoB w w' V g) (hV : ∀ k, V = .pointer (some ⟨k, 0, none⟩) → M ≤ k) (hg : M ≤ g) (hM : M ≤ w.heap.size) : Below M w w' :=
  ⟨h.os, h.tape, h.output, h.size, fun k hk => h.block k (by omega) (fun he => by have := hV k he; omega) (by omega)⟩
theorem rfx_bad (w : World) : Rfx (w.alloc (.cells #[.slice none 0 0, .bool true] 44)) 0 w.heap.size [] true :=
  ⟨none, 0, 0, Nat.zero_le _, heap_alloc_new w _, ⟨rfl, fun h => absurd h (by omega)⟩, .inl ⟨rfl, rfl, rfl⟩, (fun _ => rfl), (fun x hx => by cases hx), by omega⟩
theorem rdv_lit (w : World) : Rdv (w.alloc (.cells #[.int .u8 128, .int .u8 0, .int .u8 1, .int .u8 1] 5)) (some ⟨w.heap.size, 0, none⟩) 4 1 (valsB [128, 0, 1, 1]) := by
  refine ⟨rfl, fun _ => ⟨_, _, rfl, fun j u hj => ?_⟩⟩
  rw [cell_of_row _ _ _ _ 5 (0, 0) (heap_alloc_new w (.cells #[.int .u8 128, .int .u8 0, .int .u8 1, .int .u8 1] 5 (0, 0)))]
  rw [Nat.zero_add]
  exact (show (#[Value.int .u8 128, .int .u8 0, .int .u8 1, .int .u8 1])[j]? = (valsB [128, 0, 1, 1])[j]? by simp [valsB]).trans hj
theorem rcount_spoilt : rcount [128, 0, 1, 1] = (0, [], true) := by decide +kernel
set_option maxHeartbeats 4000000 in
theorem none_any (v : VV) (A2 : Option Addr) (n2 c2 : Nat) (ks : List Int) (w : World) (hv : VOk w v) (hk : Rdv w A2 n2 1 (valsI ks)) (hn2 : n2 ≤ 9223372036854775807) :
    Calls Try.prog 7 #[v.val, .slice A2 n2 c2] w fun e w' => e = .returned (.bool true) ∧ Below w.heap.size w w' := by
  obtain ⟨o, ho⟩ : ∃ o, o = Obj.cells (valC v.k v.n v.u v.A v.m v.c) 31 (0, 0) := ⟨_, rfl⟩
  have hb0 : Below w.heap.size w (w.alloc o) := (Below.refl _ w).alloc (Nat.le_refl _) o
  have HB0 := Lib.hid hb0
  have HV := Lib.hid (fun w1 (h : Below w.heap.size w w1) => hv.ext (stays_b h))
  have HK := Lib.hid (fun w1 (h : Below w.heap.size w w1) => hk.ext (stays_b h))
  have HC := Lib.hid (fun w1 (h : Below (w.alloc o).heap.size (w.alloc o) w1) j => (h.cell (p := ⟨w.heap.size, j, none⟩) (by rw [World.size_alloc]; exact Nat.lt_succ_self _)).trans ((congrArg (fun o => (w.alloc o).cell? ⟨w.heap.size, j, none⟩) ho).trans (cell_of_row _ _ j _ 31 (0, 0) (heap_alloc_new w _))))
  have HA := Lib.hid (alive_any (w.alloc o))
  have hvm := hv.len
  have hvl := hv.blen
  subst ho
  unfold VV.val
  clear hb0 hv hk
  go_enter Try.func7, Try.ntmps7
  go_wp2_with fail
  refine Calls.mono HA.out ?_
  rintro e w1 ⟨rfl, hb1⟩
  have k0 : w1.cell? ⟨w.heap.size, 0, none⟩ = some (.int .i64 v.k) := HC.out w1 hb1 0
  have k1 : w1.cell? ⟨w.heap.size, 1, none⟩ = some (.int .i64 v.n) := HC.out w1 hb1 1
  have k2 : w1.cell? ⟨w.heap.size, 2, none⟩ = some (.int .u64 (v.u : Int)) := HC.out w1 hb1 2
  have k3 : w1.cell? ⟨w.heap.size, 3, none⟩ = some (.slice v.A v.m v.c) := HC.out w1 hb1 3
  go_wp2_with fail
  have hb1' : Below w.heap.size w w1 := HB0.out.trans (hb1.mono HB0.out.size)
  have HL := Lib.hid (large_any (some ⟨w1.heap.size, 0, none⟩) 1 1 [v] _ (vals_one w1 v (HV.out w1 hb1')) (by omega))
  have HA1 := Lib.hid (show Below w1.heap.size w1 (w1.alloc (.cells #[.int .i64 v.k, .int .i64 v.n, .int .u64 (v.u : Int), .slice v.A v.m v.c] 31)) from (Below.refl _ w1).alloc (Nat.le_refl _) _)
  have HB1 := Lib.hid hb1
  clear hb1 hb1' k0 k1 k2 k3
  refine Calls.mono HL.out ?_
  rintro e w2 ⟨⟨b, rfl, hbf⟩, hb2⟩
  have HB2 := Lib.hid (HB1.out.trans ((HA1.out.trans (hb2.mono HA1.out.size)).mono HB1.out.size))
  have HBF := Lib.hid hbf
  clear hb2 hbf HL HA1 HB1
  cases b with
  | true =>
    go_wp2_with fail
    go_ret
    exact ⟨rfl, HB0.out.trans (HB2.out.mono HB0.out.size)⟩
  | false =>
    have hvm3 : v.m ≤ 300 := (HBF.out rfl).2 v (by simp)
    by_cases h60 : 60 < n2
    · go_wp2_with fail
      go_ret
      exact ⟨rfl, HB0.out.trans (HB2.out.mono HB0.out.size)⟩
    · have k0 : w2.cell? ⟨w.heap.size, 0, none⟩ = some (.int .i64 v.k) := HC.out w2 HB2.out 0
      have k1 : w2.cell? ⟨w.heap.size, 1, none⟩ = some (.int .i64 v.n) := HC.out w2 HB2.out 1
      have k2 : w2.cell? ⟨w.heap.size, 2, none⟩ = some (.int .u64 (v.u : Int)) := HC.out w2 HB2.out 2
      have k3 : w2.cell? ⟨w.heap.size, 3, none⟩ = some (.slice v.A v.m v.c) := HC.out w2 HB2.out 3
      have HB2' := Lib.hid (HB0.out.trans (HB2.out.mono HB0.out.size))
      have hv2 := HV.out w2 HB2'.out
      have HWN := Lib.hid (write_nil v.k v.n v.u v.A v.m v.c v.ys w2 hv2.row hv2.nil hv2.fits hv2.u64 (by omega))
      clear hv2
      go_wp2_with fail
      refine Calls.mono HWN.out ?_
      rintro e w3 ⟨r, rfl, hb3⟩
      have HB3 := Lib.hid (HB2'.out.trans (hb3.mono HB2'.out.size))
      have HO := Lib.hid (out_nil w3)
      clear hb3 k0 k1 k2 k3 HBF HWN
      go_wp2_with fail
      refine Calls.mono HO.out ?_
      rintro e w3' ⟨rfl, rfl⟩
      have HNR := Lib.hid (newReader_any (some ⟨w3.heap.size, 0, none⟩) 4 4 [128, 0, 1, 1] _ (rdv_lit w3) (fun h => by cases h) (by omega) (by decide))
      go_wp2_with fail
      refine Calls.mono HNR.out ?_
      rintro e w4 ⟨g, rfl, h4, h5⟩
      have hsz : w3.heap.size ≤ w4.heap.size := by have := h5.size; rw [World.size_alloc] at this; omega
      obtain ⟨S, hS⟩ : ∃ S : Nat → Prop, S = fun k => (w3.alloc (.cells #[.int .u8 128, .int .u8 0, .int .u8 1, .int .u8 1] 5)).heap.size ≤ k ∧ k < w4.heap.size := ⟨_, rfl⟩
      have hSS : ∀ j, S j → w3.heap.size ≤ j ∧ j < w4.heap.size := fun j hj => by rw [hS, World.size_alloc] at hj; omega
      rw [← hS] at h4
      have HSS := Lib.hid hSS
      have hc := rcount_any S (.pointer (some ⟨g, 0, none⟩)) _ _ w4 h4
      rw [rcount_spoilt] at hc
      have HCN := Lib.hid hc
      have HB4 := Lib.hid (HB3.out.trans (((Below.refl w3.heap.size w3).alloc (Nat.le_refl _) _).trans (h5.mono (by rw [World.size_alloc]; exact Nat.le_succ _)) |>.mono HB3.out.size))
      have HLOW := Lib.hid h4.low'
      have HR4 := Lib.hid h4
      clear hS hSS h4 h5 hc HNR HO
      go_wp2_with fail
      refine Calls.mono HCN.out ?_
      rintro e w5 ⟨rfl, h6, h7⟩
      have HR5 := Lib.hid h6
      have hsz5 : w4.heap.size ≤ w5.heap.size := h7.size
      have HB5 := Lib.hid (HB4.out.trans (HR4.out.only h7 (M := w.heap.size) (fun j hj => Nat.le_trans HB3.out.size (HSS.out j hj).1) HB4.out.size))
      clear h6 h7 HCN
      go_wp2_with fail
      go_loopw [34] (fun i wr => ∃ k : Nat, i = .int .i64 (k : Int) ∧ k ≤ n2 ∧ w5.heap.size ≤ wr.heap.size ∧ Rdr wr S (.pointer (some ⟨g, 0, none⟩)) [] true ∧ Below w.heap.size w wr) (fun i _ => n2 - (intOf i).toNat)
      case atStart => exact ⟨0, rfl, by omega, Nat.le_refl _, HR5.out, HB5.out⟩
      case round =>
        obtain ⟨k, rfl, hk, hsz6, hr, hb⟩ := hrel
        have hkk := HK.out wr hb
        have HR := Lib.hid hr
        have HB := Lib.hid hb
        clear hr hb
        by_cases hlt : k < n2
        · obtain ⟨hkl, b, off, rfl, hc⟩ := hkk.intAt (by omega)
          have hck := hc k (by omega)
          obtain ⟨z, hz⟩ : ∃ z, z = ks[k]'(by omega) := ⟨_, rfl⟩
          rw [← hz] at hck
          clear hc hkk hkl hz
          have hm := rfx_bad wr
          have hal : Below wr.heap.size wr (wr.alloc (.cells #[.slice none 0 0, .bool true] 44)) := (Below.refl _ wr).alloc (Nat.le_refl _) _
          have HAL := Lib.hid hal
          have hr' := HR.out.stays hal.size (fun j hj _ => hal.block j hj)
          have hrd := read_any (fun _ => False) (.pointer none) [] true 0 wr.heap.size z _ ⟨.none, hm⟩ (fun _ h => h.elim)
          rw [stepR_bad] at hrd
          have HRD := Lib.hid hrd
          have HRP := Lib.hid hr'
          clear hm hal hr' hrd
          go_wp2_with fail
          refine Calls.mono HRD.out ?_
          rintro e w6 ⟨rfl, ⟨_, h8⟩, h9⟩
          have hs6 : wr.heap.size + 1 ≤ w6.heap.size := by have := h9.size; rw [World.size_alloc] at this; exact this
          have hr6 := HRP.out.stays h9.size (fun j hj hs => h9.block j hj (fun he => by cases he) (by have := (HSS.out j hs).2; omega))
          have hrd := read_any S (.pointer (some ⟨g, 0, none⟩)) [] true 0 wr.heap.size z w6 ⟨hr6, h8⟩ (fun j hs => ⟨Nat.zero_le _, by have := (HSS.out j hs).2; omega, by have := (HSS.out j hs).2; omega⟩)
          rw [stepR_bad] at hrd
          have HRD2 := Lib.hid hrd
          have HB6 := Lib.hid ((HB.out.trans (HAL.out.mono HB.out.size)).trans (h9.below (M := w.heap.size) (fun k hk => by cases hk) (by have := HB.out.size; omega) (by rw [World.size_alloc]; have := HB.out.size; omega)))
          clear h8 h9 hr6 hrd HRD HRP
          go_wp2_with fail
          refine Calls.mono HRD2.out ?_
          rintro e w7 ⟨rfl, ⟨h10, _⟩, h11⟩
          have HB7 := Lib.hid (HB6.out.trans (h11.below (M := w.heap.size) (fun k hk => Nat.le_trans HB3.out.size (HSS.out k (HLOW.out k hk)).1) (by have := HB.out.size; omega) HB6.out.size))
          have hs7 := h11.size
          have HL1 := Lib.hid (left_any (fun _ => False) (.pointer none) [] true w7 .none)
          have HL2 := Lib.hid (left_any S (.pointer (some ⟨g, 0, none⟩)) [] true w7 h10)
          have HR7 := Lib.hid h10
          clear h10 h11 HRD2
          go_wp2_with fail
          refine Calls.mono HL1.out ?_
          rintro e w8 ⟨rfl, rfl⟩
          go_wp2_with fail
          refine Calls.mono HL2.out ?_
          rintro e w8 ⟨rfl, rfl⟩
          go_wp2_with fail
          go_roundw
          case rel => exact ⟨k + 1, by go_num, by omega, by omega, HR7.out, HB7.out⟩
          case measure => simp [intOf]; omega
        · have HE1 := Lib.hid (end_any (fun _ => False) (.pointer none) [] true wr .none)
          have HE2 := Lib.hid (end_any S (.pointer (some ⟨g, 0, none⟩)) [] true wr HR.out)
          clear hkk
          go_wp2_with fail
          refine Calls.mono HE1.out ?_
          rintro e w6 ⟨_, rfl, hv1, rfl⟩
          rw [endV_bad] at hv1
          subst hv1
          go_wp2_with fail
          refine Calls.mono (is_form _) ?_
          rintro e w6 ⟨rfl, rfl⟩
          go_wp2_with fail
          refine Calls.mono HE2.out ?_
          rintro e w6 ⟨_, rfl, hv1, rfl⟩
          rw [endV_bad] at hv1
          subst hv1
          go_wp2_with fail
          refine Calls.mono (is_form _) ?_
          rintro e w6 ⟨rfl, rfl⟩
          go_wp2_with fail
          go_ret
          exact ⟨rfl, HB.out⟩
end Go.Proofs.Ytlegaajacmjejaa
