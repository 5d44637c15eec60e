/- WireBack answers true of whatever values and cut. -/
import Derived.Test.YtlegaajacmjejaaPrefix
import Derived.Test.YtlegaajacmjejaaLoose
import Derived.Test.YtlegaajacmjejaaAlive
import Derived.Test.YtlegaajacmjejaaNone
namespace Go.Proofs.Ytlegaajacmjejaa
set_option maxRecDepth 100000
open Go.RowKit

theorem rfx_new (w : World) : Rfx (w.alloc (.cells #[.slice none 0 0, .bool false] 44)) 0 w.heap.size [] false :=
  ⟨none, 0, 0, Nat.zero_le _, heap_alloc_new w _, ⟨rfl, fun h => absurd h (by omega)⟩, .inl ⟨rfl, rfl, rfl⟩, (fun h => by cases h), (fun x hx => by cases hx), by omega⟩
/-- A value among others, at its cells. -/
theorem Vals.at {w : World} {A : Option Addr} {n : Nat} {vs : List VV} (h : Vals w A n vs) (k : Nat) (hk : k < n) : ∃ (hv : k < vs.length) (b off : Nat), A = some ⟨b, off, none⟩ ∧ w.cell? ⟨b, off + k * 4, none⟩ = some (.int .i64 vs[k].k) ∧ w.cell? ⟨b, off + k * 4 + 1, none⟩ = some (.int .i64 vs[k].n) ∧
    w.cell? ⟨b, off + k * 4 + 2, none⟩ = some (.int .u64 (vs[k].u : Int)) ∧ w.cell? ⟨b, off + k * 4 + 3, none⟩ = some (.slice vs[k].A vs[k].m vs[k].c) ∧ VOk w vs[k] := by
  have hv : k < vs.length := by have := h.len; omega
  obtain ⟨b, off, e, hc⟩ := h.cells (by omega)
  obtain ⟨h0, h1, h2, h3⟩ := hc k hv
  exact ⟨hv, b, off, e, h0, h1, h2, h3, h.all _ (List.getElem_mem hv)⟩

theorem Rdv.takeB {w : World} {A : Option Addr} {n p : Nat} {xs : List Nat} (h : Rdv w A n 1 (valsB xs)) (hp : p ≤ n) : Rdv w A p 1 (valsB (xs.take p)) := by
  have hl : xs.length = n := by have := h.1; rw [valsB_length] at this; omega
  refine ⟨by rw [valsB_length, List.length_take]; omega, fun hn => ?_⟩
  obtain ⟨b, off, e, hc⟩ := h.2 (by omega)
  refine ⟨b, off, e, fun j u hj => hc j u ?_⟩
  rw [valsB_get, List.getElem?_take] at hj
  rw [valsB_get]
  by_cases hjp : j < p
  · rw [if_pos hjp] at hj; exact hj
  · rw [if_neg hjp] at hj; cases hj
theorem cut_mod (cut : Int) (N : Nat) (hN : 0 < N) : ∃ p : Nat, p < N ∧ (IntKind.u64.wrap cut).tmod (N : Int) = (p : Int) := by
  have h0 : 0 ≤ cut % 18446744073709551616 := Int.emod_nonneg _ (by omega)
  have h1 : 0 ≤ (cut % 18446744073709551616) % (N : Int) := Int.emod_nonneg _ (by omega)
  have h2 : (cut % 18446744073709551616) % (N : Int) < N := Int.emod_lt_of_pos _ (by omega)
  refine ⟨((cut % 18446744073709551616) % (N : Int)).toNat, by omega, ?_⟩
  rw [IntKind.wrap_u64, Int.tmod_eq_emod_of_nonneg h0]
  omega
theorem Rdv.blockLt {w : World} {A : Option Addr} {n size : Nat} {ys : List Value} (h : Rdv w A n size ys) (hn : 0 < n) (hs : 0 < size) : ∀ ad, A = some ad → ad.block < w.heap.size := by
  intro ad e
  obtain ⟨b, off, e2, hc⟩ := h.2 hn
  rw [e] at e2
  injection e2 with e2
  have hp : 0 < ys.length := by rw [h.1]; exact Nat.mul_pos hn hs
  have := World.block_lt_of_cell? _ _ (hc 0 _ (List.getElem?_eq_getElem hp))
  rw [e2]
  exact this
set_option maxHeartbeats 4000000 in
theorem wireBack_any (A : Option Addr) (n c : Nat) (vs : List VV) (cut : Int) (w : World) (h : Vals w A n vs) (hn : n ≤ 9223372036854775807) (hcut : Fits cut) :
    Calls Try.prog 5 #[.slice A n c, .int .i64 cut] w fun e w' => e = .returned (.bool true) ∧ Below w.heap.size w w' := by
  have HVS := Lib.hid (fun w1 (k : Below w.heap.size w w1) => h.ext (stays_b k))
  have HLN := Lib.hid h.len
  have HA := Lib.hid (alive_any w)
  have HCUT := Lib.hid hcut
  clear h hcut
  go_enter Try.func5, Try.ntmps5
  go_wp2_with fail
  refine Calls.mono HA.out ?_
  rintro e w1 ⟨rfl, hb1⟩
  have HB1 := Lib.hid hb1
  have HL := Lib.hid (large_any A n c vs w1 (HVS.out w1 hb1) hn)
  clear hb1
  go_wp2_with fail
  refine Calls.mono HL.out ?_
  rintro e w2 ⟨⟨b, rfl, hbf⟩, hb2⟩
  have HB2 := Lib.hid (HB1.out.trans (hb2.mono HB1.out.size))
  have HBF := Lib.hid hbf
  clear hb2 hbf HL HA
  cases b with
  | true =>
    go_wp2_with fail
    go_ret
    exact ⟨rfl, HB2.out⟩
  | false =>
    have hn41 : n ≤ 41 := (HBF.out rfl).1
    have hsz : ∀ k (hk : k < vs.length), Sized vs[k] := fun k hk => by
      have hv := (HVS.out w2 HB2.out).all _ (List.getElem_mem hk)
      have hm := (HBF.out rfl).2 _ (List.getElem_mem hk)
      exact ⟨by rw [hv.blen]; exact hm, hv.u64, hv.fits⟩
    have HSZ := Lib.hid hsz
    clear hsz
    have HW0 := Lib.hid (wtr_new w2)
    have HB3 := Lib.hid (HB2.out.trans ((Below.refl w2.heap.size w2).alloc (Nat.le_refl _) (.cells #[.slice none 0 0] 28) |>.mono HB2.out.size))
    go_wp2_with fail
    go_loopw [23] (fun i wr => ∃ (k : Nat) (v' : Value), i = .int .i64 (k : Int) ∧ k ≤ n ∧ Wtr wr w2.heap.size w2.heap.size v' (encs (vs.take k)) ∧ Below w.heap.size w wr) (fun i _ => n - (intOf i).toNat)
    case atStart => exact ⟨0, _, rfl, by omega, HW0.out, HB3.out⟩
    case round =>
      obtain ⟨k, v', rfl, hk, hwt, hb⟩ := hrel
      have HB := Lib.hid hb
      have HWT := Lib.hid hwt
      clear hwt hb
      by_cases hlt : k < n
      · obtain ⟨hv, b, off, rfl, h0, h1, h2, h3, hok⟩ := (HVS.out wr HB.out).at k hlt
        have hs := HSZ.out k hv
        have htk := encs_take vs k hv
        have hlen : (encs (vs.take k)).length ≤ 310 * 41 := by
          have := (encs_len (vs.take k) (fun v hv' => by
            obtain ⟨j, hj, rfl⟩ := List.getElem_of_mem hv'
            simp only [List.getElem_take]
            exact HSZ.out j (by simp at hj; omega))).2
          rw [List.length_take] at this
          omega
        have hlow := fun hm0 => ((HVS.out w (Below.refl _ _)).all _ (List.getElem_mem hv)).row.blockLt hm0 (by omega)
        obtain ⟨v, hvv⟩ : ∃ v, v = vs[k] := ⟨_, rfl⟩
        rw [← hvv] at h0 h1 h2 h3 hok hs htk hlow
        have hal : Below wr.heap.size wr (wr.alloc (.cells #[.int .i64 v.k, .int .i64 v.n, .int .u64 (v.u : Int), .slice v.A v.m v.c] 31)) := (Below.refl _ wr).alloc (Nat.le_refl _) _
        have haway : 0 < v.m → Away (wr.alloc (.cells #[.int .i64 v.k, .int .i64 v.n, .int .u64 (v.u : Int), .slice v.A v.m v.c] 31)) w2.heap.size v' v.A := by
          intro hm0 ad hadA hadlt
          have hlt0 : ad.block < w.heap.size := hlow hm0 ad hadA
          have := HB2.out.size
          exact ⟨by omega, fun he => by have := (HWT.out.own.lt _ he).1; omega⟩
        have HWR := Lib.hid (write_any w2.heap.size w2.heap.size v' (encs (vs.take k)) v.k v.n v.u v.A v.m v.c v.ys _ (HWT.out.ext hal) ((hok.ext (stays_b hal)).row) hok.nil haway hok.fits hok.u64 hok.small (by omega) (by have := hok.blen; have := hs.1; omega))
        have HAL := Lib.hid hal
        have HTK := Lib.hid htk
        have HOW := Lib.hid (fun j (hj : v'.ownBlock = some j) => (HWT.out.own.lt j hj).1)
        clear hok hs htk hlen hvv hal haway hlow
        go_wp2_with fail
        refine Calls.mono HWR.out ?_
        rintro e w3 ⟨r, rfl, v3, hbo⟩
        have HW3 := Lib.hid hbo.wrote.wtr
        have HB4 := Lib.hid ((HB.out.trans (HAL.out.mono HB.out.size)).trans ((hbo.wrote.below HOW.out (by rw [World.size_alloc]; have := HW0.out.low; have := HWT.out.lt; omega)).mono HB2.out.size))
        clear hbo HWR
        go_wp2_with fail
        go_roundw
        case rel => exact ⟨k + 1, v3, by go_num, by omega, by rw [HTK.out]; exact HW3.out, HB4.out⟩
        case measure => simp [intOf]; omega
      · have hall : encs (vs.take k) = encs vs := by rw [List.take_of_length_le (by have := HLN.out; omega)]
        have hw := HWT.out
        rw [hall] at hw
        have hlen := encs_len vs (fun v hv => by obtain ⟨j, hj, rfl⟩ := List.getElem_of_mem hv; exact HSZ.out j hj)
        rw [HLN.out] at hlen
        obtain ⟨hlen1, hlen2⟩ := hlen
        have hsm := encs_small vs (fun v hv => ((HVS.out w2 HB2.out).all v hv).small)
        obtain ⟨bs, hbs⟩ : ∃ bs, bs = encs vs := ⟨_, rfl⟩
        rw [← hbs] at hw hlen1 hlen2 hsm
        have HBS := Lib.hid hbs
        have HOUT := Lib.hid (out_any _ _ _ _ wr hw (by omega))
        have HSM := Lib.hid hsm
        clear hall hw hbs hsm
        obtain ⟨N, hN⟩ : ∃ N, N = bs.length := ⟨_, rfl⟩
        rw [← hN] at HOUT hlen1 hlen2
        have HNN := Lib.hid hN
        have hk' : ¬ k < n := hlt
        clear hN
        go_wp2_with fail
        refine Calls.mono HOUT.out ?_
        rintro e wo ⟨_, rfl, A1, c1, rfl, h3, h4, h5⟩
        have hnil : A1 = none → c1 = 0 ∧ N = 0 := fun h => by
          rcases h4 with ⟨_, h6, h7⟩ | ⟨b, h6, _⟩
          · exact ⟨h7, h6⟩
          · rw [h] at h6; cases h6
        have hNc : N ≤ c1 := by
          rcases h4 with ⟨_, h6, h7⟩ | ⟨b, h6, _, _, h8, _⟩
          · omega
          · exact h8
        have HNR := Lib.hid (newReader_any A1 N c1 bs wo h3 hnil (by omega) HSM.out)
        have HBO := Lib.hid (HB.out.trans (h5.mono HB.out.size))
        have H3 := Lib.hid h3
        have HNIL := Lib.hid hnil
        clear h3 h4 h5 hnil HOUT
        go_wp2_with fail
        refine Calls.mono HNR.out ?_
        rintro e wn ⟨gr, rfl, h6, h7⟩
        obtain ⟨S, hS⟩ : ∃ S : Nat → Prop, S = fun k => wo.heap.size ≤ k ∧ k < wn.heap.size := ⟨_, rfl⟩
        have hSS : ∀ j, S j → wo.heap.size ≤ j ∧ j < wn.heap.size := fun j hj => by rw [hS] at hj; exact hj
        rw [← hS] at h6
        have HSS := Lib.hid hSS
        have HR := Lib.hid h6
        have H7 := Lib.hid h7
        have HLOW := Lib.hid h6.low'
        clear h6 h7 hS hSS HNR
        go_wp2_with fail
        go_loopw [37] (fun i wr => ∃ k : Nat, i = .int .i64 (k : Int) ∧ k ≤ n ∧ Rdr wr S (.pointer (some ⟨gr, 0, none⟩)) (encs (vs.drop k)) false ∧ Below wo.heap.size wo wr ∧ wn.heap.size ≤ wr.heap.size) (fun i _ => n - (intOf i).toNat)
        case atStart => exact ⟨0, rfl, by omega, by rw [List.drop_zero, ← HBS.out]; exact HR.out, H7.out, Nat.le_refl _⟩
        case round =>
          obtain ⟨k2, rfl, hk2, hr, hbw, hszn⟩ := hrel
          have HBW := Lib.hid hbw
          have HBR := Lib.hid (HBO.out.trans (hbw.mono HBO.out.size))
          have HRR := Lib.hid hr
          clear hr hbw
          by_cases hlt2 : k2 < n
          · obtain ⟨hv, b, off, rfl, h0, h1, h2, h3, hok⟩ := (HVS.out wr HBR.out).at k2 hlt2
            have hs := HSZ.out k2 hv
            have hdr := HRR.out
            rw [encs_drop vs k2 hv] at hdr
            have hv0 := (HVS.out w (Below.refl _ _)).all _ (List.getElem_mem hv)
            obtain ⟨v, hvv⟩ : ∃ v, v = vs[k2] := ⟨_, rfl⟩
            rw [← hvv] at h0 h1 h2 h3 hok hs hdr hv0
            have hal : Below wr.heap.size wr (wr.alloc (.cells #[.int .i64 v.k, .int .i64 v.n, .int .u64 (v.u : Int), .slice v.A v.m v.c] 31)) := (Below.refl _ wr).alloc (Nat.le_refl _) _
            have hbk := back_any S (.pointer (some ⟨gr, 0, none⟩)) v (encs (vs.drop (k2 + 1))) (wr.alloc (.cells #[.int .i64 v.k, .int .i64 v.n, .int .u64 (v.u : Int), .slice v.A v.m v.c] 31)) (hdr.stays hal.size (fun j hj _ => hal.block j hj)) (fun j hj => by have := (HSS.out j hj).2; rw [World.size_alloc]; omega) (hok.ext (stays_b hal)) (by have := hs.1; have := hok.blen; omega)
              (fun w' ho => hv0.row.ext (stays_b ((HBR.out.trans (hal.mono HBR.out.size)).trans ((hdr.stays hal.size (fun j hj _ => hal.block j hj)).only ho (M := w.heap.size) (fun j hj => Nat.le_trans HBO.out.size (HSS.out j hj).1) (Nat.le_trans HBR.out.size hal.size)))))
            have HBK := Lib.hid hbk
            have HALw := Lib.hid (HBW.out.trans (hal.mono HBW.out.size))
            have HRA := Lib.hid (hdr.stays hal.size (fun j hj _ => hal.block j hj))
            unfold VV.val at HBK
            clear hok hs hdr hv0 hvv hal hbk
            go_wp2_with fail
            refine Calls.mono HBK.out ?_
            rintro e w5 ⟨rfl, h8, h9⟩
            have H8 := Lib.hid h8
            have H9 := Lib.hid (HALw.out.trans (HRA.out.only h9 (M := wo.heap.size) (fun j hj => (HSS.out j hj).1) HALw.out.size))
            have hs9 : wn.heap.size ≤ w5.heap.size := by have := h9.size; rw [World.size_alloc] at this; omega
            clear h8 h9 HBK
            go_wp2_with fail
            go_roundw
            case rel => exact ⟨k2 + 1, by go_num, by omega, H8.out, H9.out, hs9⟩
            case measure => simp [intOf]; omega
          · have hdn : encs (vs.drop k2) = [] := by rw [List.drop_eq_nil_of_le (by have := HLN.out; omega)]; rfl
            have hrr := HRR.out
            rw [hdn] at hrr
            have hend := end_any S (.pointer (some ⟨gr, 0, none⟩)) [] false wr hrr
            rw [show endV [] false = .nilIface from rfl] at hend
            have HEND := Lib.hid hend
            clear hdn hrr hend
            go_wp2_with fail
            refine Calls.mono HEND.out ?_
            rintro e w6 ⟨_, rfl, rfl, rfl⟩
            clear HEND
            by_cases h0 : N = 0
            · have hn0 : n = 0 := by omega
              go_wp2_with fail
              go_ret
              exact ⟨by simp, HBR.out⟩
            · have hN0 : 0 < N := Nat.pos_of_ne_zero h0
              obtain ⟨b, off, rfl, _⟩ := H3.out.2 hN0
              obtain ⟨p, hpN, e1⟩ := cut_mod cut N hN0
              have hrow := (H3.out.ext (stays_b HBW.out)).takeB (Nat.le_of_lt hpN)
              have HNR2 := Lib.hid (newReader_any (some ⟨b, off, none⟩) p c1 (bs.take p) wr hrow (fun h => by cases h) (by omega) (fun x hx => HSM.out x (List.mem_of_mem_take hx)))
              clear h0 hrow
              go_wp2_with fail
              refine Calls.mono HNR2.out ?_
              rintro e wq ⟨gs, rfl, h6, h7⟩
              obtain ⟨S2, hS2⟩ : ∃ S2 : Nat → Prop, S2 = fun k => wr.heap.size ≤ k ∧ k < wq.heap.size := ⟨_, rfl⟩
              have hSS2 : ∀ j, S2 j → wr.heap.size ≤ j ∧ j < wq.heap.size := fun j hj => by rw [hS2] at hj; exact hj
              rw [← hS2] at h6
              have HSS2 := Lib.hid hSS2
              have HR2 := Lib.hid h6
              have HBQ := Lib.hid (HBR.out.trans (h7.mono HBR.out.size))
              have HLOW2 := Lib.hid h6.low'
              have HCUT0 := Lib.hid (show Cut vs 0 (bs.take p) false from .inr ⟨rfl, p, by rw [List.drop_zero, ← HBS.out, ← HNN.out]; exact hpN, by rw [List.drop_zero, ← HBS.out]⟩)
              clear h6 h7 hS2 hSS2 HNR2 e1
              go_wp2_with fail
              go_loopw [67] (fun i wr => ∃ (k : Nat) (cs : List Nat) (bad : Bool), i = .int .i64 (k : Int) ∧ k ≤ n ∧ Rdr wr S2 (.pointer (some ⟨gs, 0, none⟩)) cs bad ∧ Cut vs k cs bad ∧ Below w.heap.size w wr ∧ wq.heap.size ≤ wr.heap.size) (fun i _ => n - (intOf i).toNat)
              case atStart => exact ⟨0, _, false, rfl, by omega, HR2.out, HCUT0.out, HBQ.out, Nat.le_refl _⟩
              case round =>
                obtain ⟨k3, cs, bad, rfl, hk3, hr, hcut, hbw, hszq⟩ := hrel
                have HBW3 := Lib.hid hbw
                have HRR3 := Lib.hid hr
                have HCC := Lib.hid hcut
                clear hr hbw hcut
                by_cases hlt3 : k3 < n
                · obtain ⟨hv, b3, off3, e3, h0, h1, h2, h3, hok⟩ := (HVS.out wr HBW3.out).at k3 hlt3
                  cases e3
                  have hnext := HCC.out.next hv (HSZ.out k3 hv)
                  obtain ⟨v, hvv⟩ : ∃ v, v = vs[k3] := ⟨_, rfl⟩
                  rw [← hvv] at h0 h1 h2 h3 hok hnext
                  have hal1 : Below wr.heap.size wr (wr.alloc (.cells #[.int .i64 v.k, .int .i64 v.n, .int .u64 (v.u : Int), .slice v.A v.m v.c] 31)) := (Below.refl _ wr).alloc (Nat.le_refl _) _
                  have hal : Below wr.heap.size wr ((wr.alloc (.cells #[.int .i64 v.k, .int .i64 v.n, .int .u64 (v.u : Int), .slice v.A v.m v.c] 31)).alloc (.cells #[.slice none 0 0, .bool false] 44)) := hal1.alloc hal1.size _
                  have hmr := rfx_new (wr.alloc (.cells #[.int .i64 v.k, .int .i64 v.n, .int .u64 (v.u : Int), .slice v.A v.m v.c] 31))
                  rw [World.size_alloc] at hmr
                  have hrl := read_loose S2 (.pointer (some ⟨gs, 0, none⟩)) cs bad [] false 0 (wr.heap.size + 1) v.k _ (HRR3.out.stays hal.size (fun j hj _ => hal.block j hj)) hmr (fun j hj => by have := (HSS2.out j hj).2; simp; omega)
                  have HRL := Lib.hid hrl
                  have HNX := Lib.hid hnext
                  have HALL := Lib.hid (HBW3.out.trans (hal.mono HBW3.out.size))
                  clear hok hvv hal hal1 hmr hrl hnext
                  go_wp2_with fail
                  refine Calls.mono HRL.out ?_
                  rintro e w8 ⟨⟨bb, rfl⟩, h8, h9⟩
                  have H8 := Lib.hid h8
                  have H9 := Lib.hid (HALL.out.trans (h9.below (M := w.heap.size) (fun j hj => Nat.le_trans HBR.out.size (HSS2.out j (HLOW2.out j hj)).1) (by have := HBW3.out.size; omega) HALL.out.size))
                  have hs9 : wq.heap.size ≤ w8.heap.size := by have := h9.size; rw [World.size_alloc, World.size_alloc] at this; omega
                  clear h8 h9 HRL
                  go_wp2_with fail
                  go_roundw
                  case rel => exact ⟨k3 + 1, _, _, by go_num, by omega, H8.out, HNX.out, H9.out, hs9⟩
                  case measure => simp [intOf]; omega
                · obtain ⟨rfl, rfl⟩ := HCC.out.done (by have := HLN.out; omega)
                  have hend := end_any S2 (.pointer (some ⟨gs, 0, none⟩)) [] true wr HRR3.out
                  rw [endV_bad] at hend
                  unfold eForm at hend
                  have HEND := Lib.hid hend
                  clear hend
                  go_wp2_with fail
                  refine Calls.mono HEND.out ?_
                  rintro e w9 ⟨_, rfl, rfl, rfl⟩
                  go_wp2_with fail
                  go_ret
                  exact ⟨rfl, HBW3.out⟩
end Go.Proofs.Ytlegaajacmjejaa
