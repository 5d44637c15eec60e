/- DevAlone: the law. -/
import Derived.Test.YthmebgpleegonaaDAloneM
namespace Go.Proofs.Ythmebgpleegonaa
set_option maxRecDepth 100000
open Go.RowKit

theorem sz_three (w : World) (a b c : Nat) : Sz (w.alloc (.cells #[.int .i64 (a : Int), .int .i64 (b : Int), .int .i64 (c : Int)] 3)) (some ⟨w.heap.size, 0, none⟩) [a, b, c] :=
  ⟨rfl, rfl, fun _ => ⟨_, _, rfl, fun j u hj => by
    rw [Nat.zero_add, cell_of_row _ _ j #[.int .i64 (a : Int), .int .i64 (b : Int), .int .i64 (c : Int)] _ (0, 0) (heap_alloc_new w _)]
    have e : rowV numV [a, b, c] = [.int .i64 (a : Int), .int .i64 (b : Int), .int .i64 (c : Int)] := rfl
    rw [e] at hj
    simpa using hj⟩⟩
set_option maxHeartbeats 16000000 in
theorem alone_law (one : Int) (A : Option Addr) (c : Nat) (l : List Opx) (w : World) (h : Ops w A l) (hl : l.length ≤ 9223372036854775807) (hby : ∀ o ∈ l, o.b < 256) :
    Calls Try.prog 6 #[.slice A l.length c, .int .i64 one] w fun e w' => e = .returned (.bool true) ∧ Below w.heap.size w w' := by
  have HH := Lib.hid h
  have HBY := Lib.hid hby
  have hl' := hl
  obtain ⟨n, hn⟩ : ∃ n, n = l.length := ⟨_, rfl⟩
  have HN := Lib.hid hn
  rw [← hn] at hl' ⊢
  clear h hn hby
  go_enter Try.func6, Try.ntmps6
  go_wp2_with fail
  refine Calls.mono (alive_true w) ?_
  rintro e w1 ⟨rfl, b1⟩
  have B1 := Lib.hid b1
  have HLG := Lib.hid (long_any A c l w1 (RowAt.below HH.out b1) hl)
  rw [← HN.out] at HLG
  clear b1
  go_wp2_with fail
  refine Calls.mono HLG.out ?_
  rintro e w2 ⟨r, rfl, hr, b2⟩
  have B2 := Lib.hid (B1.out.trans (b2.mono B1.out.size))
  clear b2 HLG
  cases r with
  | true =>
    clear hr
    go_wp2_with fail
    go_ret
    exact ⟨rfl, B2.out⟩
  | false =>
    have HSH := Lib.hid (hr rfl)
    clear hr
    have hbk : Below w2.heap.size w2 (w2.alloc (.cells #[.int .i64 4, .int .i64 4, .int .i64 4] 3)) := (Below.refl _ _).alloc (Nat.le_refl _) _
    have HNW := Lib.hid (st_new _ 3 [4, 4, 4] _ (sz_three w2 4 4 4) (by decide) (by decide))
    have CK := Lib.hid (Chg.of_below (B2.out.trans (hbk.mono B2.out.size)) (fun _ => False))
    clear hbk B1 B2
    go_wp2_with fail
    refine Calls.mono HNW.out ?_
    rintro e w3 ⟨Fs, g, rfl, s3, c3⟩
    have S3 := Lib.hid s3
    have C3 := Lib.hid (CK.out.trans c3)
    have hbk : Below w3.heap.size w3 (w3.alloc (.cells #[.int .i64 4, .int .i64 4, .int .i64 4] 3)) := (Below.refl _ _).alloc (Nat.le_refl _) _
    have HNW2 := Lib.hid (st_new _ 3 [4, 4, 4] _ (sz_three w3 4 4 4) (by decide) (by decide))
    have CK2 := Lib.hid (Chg.of_below hbk (fun _ => False))
    clear s3 c3 HNW CK hbk
    go_wp2_with fail
    refine Calls.mono HNW2.out ?_
    rintro e w4 ⟨Ft, g2, rfl, t4, c4⟩
    have c34 := CK2.out.trans c4
    have S4 := Lib.hid (S3.out.keep c34 fun _ _ e => e)
    have T4 := Lib.hid t4
    have AP := Lib.hid (show ∀ k, Fs k → ¬ Ft k from c34.apart S3.out.lt fun _ _ e => e)
    have C4 := Lib.hid (show Chg w w4 (fun _ => False) (fun k => Fs k ∨ Ft k) from by
      have h9 := C3.out.trans (show Chg w3 w4 Fs (fun k => Fs k ∨ Ft k) from ⟨c34.os, c34.tape, c34.output, c34.size, fun k hk _ => c34.block k hk (fun e => e), fun k e => by
        rcases e with e | e
        · exact .inl e
        · rcases c34.new k e with e2 | e2
          · exact e2.elim
          · exact .inr e2⟩)
      exact h9)
    clear t4 c4 c34 S3 C3 HNW2 CK2
    go_upto_region 10 with fail
    obtain ⟨k, hk, hk1⟩ := one_mod one
    rw [hk1]
    clear hk1
    go_wp2_with fail
    go_loopw [44] (fun i wr => ∃ (q : Nat) (Fs Ft : Nat → Prop) (ps pt : Pw) (ds dt : List Dk), i = .int .i64 (q : Int) ∧ q ≤ n ∧ St wr Fs g ps ds q ∧ St wr Ft g2 pt dt q ∧ (∀ k, Fs k → ¬ Ft k) ∧ (On ps ∧ ps.steps ≤ q ∧ ps.armed = 0) ∧ (On pt ∧ pt.steps ≤ q ∧ pt.armed = 0) ∧ (ds.map Dk.size = [4, 4, 4] ∧ dt.map Dk.size = [4, 4, 4] ∧ ds[k]? = dt[k]?) ∧ Chg w wr (fun _ => False) (fun k => Fs k ∨ Ft k)) (fun i _ => n - (intOf i).toNat)
    case atStart => exact ⟨0, Fs, Ft, pw0, pw0, _, _, rfl, by omega, S4.out, T4.out, AP.out, ⟨⟨rfl, rfl⟩, Nat.le_refl _, rfl⟩, ⟨⟨rfl, rfl⟩, Nat.le_refl _, rfl⟩, ⟨rfl, rfl, rfl⟩, C4.out⟩
    case round =>
      obtain ⟨q, Fs, Ft, ps, pt, ds, dt, rfl, hq, hS, hT, hap, hPs, hPt, hD, hC⟩ := hrel
      have HD := Lib.hid hD
      have HPs := Lib.hid hPs
      have HPt := Lib.hid hPt
      have HAP := Lib.hid hap
      by_cases hlt : q < n
      · have hq81 : q ≤ 81 := by have := HSH.out.1; have := HN.out; omega
        have hql : q < l.length := by rw [← HN.out]; exact hlt
        obtain ⟨b, off, rfl, hc⟩ := Ops.cell (Ops.later HH.out hC) (by omega)
        obtain ⟨c0, c1, c2, c3, c4⟩ := hc q hql
        obtain ⟨o, ho⟩ : ∃ o, o = l[q] := ⟨_, rfl⟩
        have hob := HBY.out _ (List.getElem_mem hql)
        rw [← ho] at c0 c1 c2 c3 c4 hob
        have hba : Below wr.heap.size wr (wr.alloc (.cells #[.int .i64 o.kind, .int .i64 o.dev, .int .i64 o.n, .int .u8 (o.b : Int), .slice o.A o.m o.c] 40)) := (Below.refl _ _).alloc (Nat.le_refl _) _
        have SA := Lib.hid (hS.below hba)
        have TA := Lib.hid (hT.below hba)
        have CA := Lib.hid (hC.trans (Chg.of_below hba _))
        have FIN := Lib.hid (show ∃ (q' : Nat) (Fs Ft : Nat → Prop) (ps pt : Pw) (ds dt : List Dk), (Value.int .i64 ((q : Int) + 1)) = .int .i64 (q' : Int) ∧ q' ≤ n ∧ St (wr.alloc (.cells #[.int .i64 o.kind, .int .i64 o.dev, .int .i64 o.n, .int .u8 (o.b : Int), .slice o.A o.m o.c] 40)) Fs g ps ds q' ∧ St (wr.alloc (.cells #[.int .i64 o.kind, .int .i64 o.dev, .int .i64 o.n, .int .u8 (o.b : Int), .slice o.A o.m o.c] 40)) Ft g2 pt dt q' ∧ (∀ k, Fs k → ¬ Ft k) ∧ (On ps ∧ ps.steps ≤ q' ∧ ps.armed = 0) ∧ (On pt ∧ pt.steps ≤ q' ∧ pt.armed = 0) ∧ (ds.map Dk.size = [4, 4, 4] ∧ dt.map Dk.size = [4, 4, 4] ∧ ds[k]? = dt[k]?) ∧ Chg w (wr.alloc (.cells #[.int .i64 o.kind, .int .i64 o.dev, .int .i64 o.n, .int .u8 (o.b : Int), .slice o.A o.m o.c] 40)) (fun _ => False) (fun k => Fs k ∨ Ft k) from
          ⟨q + 1, Fs, Ft, ps, pt, ds, dt, by go_num, by omega, SA.out.mono (by omega), TA.out.mono (by omega), HAP.out, ⟨HPs.out.1, by have := HPs.out.2.1; omega, HPs.out.2.2⟩, ⟨HPt.out.1, by have := HPt.out.2.1; omega, HPt.out.2.2⟩, HD.out, CA.out⟩)
        have NZ := Lib.hid (And.intro hS.lt hT.lt)
        obtain ⟨r1, hr1⟩ : ∃ r, r = (o.kind != 1) := ⟨_, rfl⟩
        obtain ⟨r2, hr2⟩ : ∃ r, r = (o.kind != 2) := ⟨_, rfl⟩
        have g1 := hr1.symm
        have g2' := hr2.symm
        clear hr1 hr2 hc ho hS hT hap hPs hPt hD hC hba
        by_cases hd0 : o.dev < 0
        · have g3 : decide (o.dev < 0) = true := decide_eq_true hd0
          cases r1 <;> cases r2 <;>
          · go_wp2_with fail
            go_roundw
            case rel => exact FIN.out
            case measure => simp [intOf]; omega
        · have g3 : decide (o.dev < 0) = false := decide_eq_false hd0
          by_cases hd2 : 2 < o.dev
          · have g4 : decide (2 < o.dev) = true := decide_eq_true hd2
            cases r1 <;> cases r2 <;>
            · go_wp2_with fail
              go_roundw
              case rel => exact FIN.out
              case measure => simp [intOf]; omega
          · have g4 : decide (2 < o.dev) = false := decide_eq_false hd2
            cases r1 with
            | true =>
              cases r2 with
              | true =>
                go_wp2_with fail
                go_roundw
                case rel => exact FIN.out
                case measure => simp [intOf]; omega
              | false =>
                have gk : (o.kind == 1) = false := by simpa using g1
                have hbp : Below (wr.alloc (.cells #[.int .i64 o.kind, .int .i64 o.dev, .int .i64 o.n, .int .u8 (o.b : Int), .slice o.A o.m o.c] 40)).heap.size (wr.alloc (.cells #[.int .i64 o.kind, .int .i64 o.dev, .int .i64 o.n, .int .u8 (o.b : Int), .slice o.A o.m o.c] 40)) ((wr.alloc (.cells #[.int .i64 o.kind, .int .i64 o.dev, .int .i64 o.n, .int .u8 (o.b : Int), .slice o.A o.m o.c] 40)).alloc (.cells #[.pointer (some ⟨g, 0, none⟩), .pointer (some ⟨g2, 0, none⟩)] 26)) := (Below.refl _ _).alloc (Nat.le_refl _) _
                have BX0 := bx_new wr o g g2
                have SB := Lib.hid (SA.out.below hbp)
                have TB := Lib.hid (TA.out.below hbp)
                have CB := Lib.hid (CA.out.trans (Chg.of_below hbp _))
                clear FIN SA TA CA hbp
                go_upto_region 15 with fail
                obtain ⟨z, hz⟩ : ∃ z, z = wr.heap.size := ⟨_, rfl⟩
                rw [← hz] at BX0 NZ ⊢
                revert SB TB CB BX0
                generalize World.alloc _ (.cells #[.pointer (some ⟨g, 0, none⟩), .pointer (some ⟨g2, 0, none⟩)] 26) = wz
                intro SB TB CB BX0
                have BX := Lib.hid BX0
                have hne := SB.out.other TB.out HAP.out
                have HE := Lib.hid (ptr_same wz g2)
                obtain ⟨y0, y1, y2, y3, p0, p1⟩ := BX0
                clear hz
                refine wp_loop_rounds 3 ?_
                rw [rounds_succ]
                try clear y2 y3
                have HFL := Lib.hid (st_flush SB.out o.dev (by have := size_len3 HD.out.1; omega) (by omega) (by have := HPs.out.2.1; omega) (by have := HPs.out.2.2; omega))
                obtain ⟨f1, f2, f3, f4⟩ := flushM_on HPs.out.1 ds o.dev
                have f5 := flushM_get HPs.out.1 ds o.dev k
                obtain ⟨u, hu⟩ : ∃ u, u = flushM ps ds o.dev := ⟨_, rfl⟩
                rw [← hu] at HFL f1 f2 f3 f4 f5
                obtain ⟨v2, p2, d2⟩ := u
                simp only [] at HFL f1 f2 f3 f4 f5
                have HON2 := Lib.hid (show On p2 ∧ p2.steps ≤ q + 1 ∧ p2.armed = 0 from ⟨f1, by have := HPs.out.2.1; omega, by have := HPs.out.2.2; omega⟩)
                have HZ2 := Lib.hid (f4.trans HD.out.1)
                have HG2 := Lib.hid f5
                clear hu f1 f2 f3 f4 f5
                go_wp2_with fail
                refine Calls.mono HFL.out ?_
                rintro e w2 ⟨rfl, s9, c9⟩
                obtain ⟨F2, hF2⟩ : ∃ X, X = Fs := ⟨_, rfl⟩
                have S2 := Lib.hid (show St w2 F2 g p2 d2 (q + 1) by rw [hF2]; exact s9.mono (by omega))
                have C2 := Lib.hid (show Chg wz w2 Fs F2 by rw [hF2]; exact c9)
                clear s9 c9 HFL hF2
                go_wp2_with fail
                have TC := Lib.hid (TB.out.keep C2.out fun k h1 h2 => HAP.out k h2 h1)
                have AP2 := Lib.hid (show ∀ k, F2 k → ¬ Ft k from fun k h1 h2 => by
                  rcases C2.out.new k h1 with e | e
                  · exact HAP.out k e h2
                  · have := TB.out.lt k h2; omega)
                have BX2 := Lib.hid (BX.out.later C2.out NZ.out.1)
                have CC2 := Lib.hid (CB.out.trans (C2.out.left Ft))
                clear TB SB C2 CB HAP BX HPs
                try clear y0 y1 y2 y3 p0 p1
                try clear hne
                have hsame := ptr_same w2 g2
                obtain ⟨y0, y1, y2, y3, p0, p1⟩ := BX2.out
                by_cases hdk : o.dev = (k : Int)
                · have hdk' : (o.dev != (k : Int)) = false := by rw [hdk]; simp
                  have HDK := Lib.hid hdk
                  clear hdk
                  rw [rounds_succ]
                  have HFL := Lib.hid (st_flush TC.out o.dev (by have := size_len3 HD.out.2.1; omega) (by omega) (by have := HPt.out.2.1; omega) (by have := HPt.out.2.2; omega))
                  obtain ⟨f1, f2, f3, f4⟩ := flushM_on HPt.out.1 dt o.dev
                  have f5 := flushM_get HPt.out.1 dt o.dev k
                  obtain ⟨u, hu⟩ : ∃ u, u = flushM pt dt o.dev := ⟨_, rfl⟩
                  rw [← hu] at HFL f1 f2 f3 f4 f5
                  obtain ⟨v3, p3, d3⟩ := u
                  simp only [] at HFL f1 f2 f3 f4 f5
                  have HON3 := Lib.hid (show On p3 ∧ p3.steps ≤ q + 1 ∧ p3.armed = 0 from ⟨f1, by have := HPt.out.2.1; omega, by have := HPt.out.2.2; omega⟩)
                  have HZ3 := Lib.hid (f4.trans HD.out.2.1)
                  have HG3 := Lib.hid f5
                  clear hu f1 f2 f3 f4 f5
                  go_wp2_with fail
                  refine Calls.mono HFL.out ?_
                  rintro e w3 ⟨rfl, s9, c9⟩
                  obtain ⟨F3, hF3⟩ : ∃ X, X = Ft := ⟨_, rfl⟩
                  have S3 := Lib.hid (show St w3 F3 g2 p3 d3 (q + 1) by rw [hF3]; exact s9.mono (by omega))
                  have C3 := Lib.hid (show Chg w2 w3 Ft F3 by rw [hF3]; exact c9)
                  clear s9 c9 HFL hF3
                  go_wp2_with fail
                  have S3' := Lib.hid (S2.out.keep C3.out fun k h1 h2 => AP2.out k h1 h2)
                  have AP3 := Lib.hid (C3.out.apart S2.out.lt AP2.out)
                  have HQ := Lib.hid (show d2[k]? = d3[k]? by
                    rw [HG2.out, HG3.out, HD.out.2.2, hasB_sizes (HD.out.1.trans HD.out.2.1.symm)])
                  have CC3 := Lib.hid (CC2.out.trans (C3.out.right F2))
                  try clear y0 y1 y2 y3 p0 p1
                  try clear hdk'
                  try clear hsame
                  clear AP2 S2 C3 CC2 BX2 HG2 HG3
                  rw [rounds_succ]
                  go_wp2_with fail
                  go_roundw
                  case rel => exact ⟨q + 1, F2, F3, p2, p3, d2, d3, by go_num, by omega, S3'.out, S3.out, AP3.out, HON2.out, HON3.out, ⟨HZ2.out, HZ3.out, HQ.out⟩, CC3.out⟩
                  case measure => simp [intOf]; omega
                · have hdk' : (o.dev != (k : Int)) = true := by simpa using hdk
                  have HQ := Lib.hid (show d2[k]? = dt[k]? by
                    rw [HG2.out, HD.out.2.2, if_neg (fun e => hdk (by omega))])
                  have TD := Lib.hid (TC.out.mono (show q ≤ q + 1 by omega))
                  have HPT := Lib.hid (show On pt ∧ pt.steps ≤ q + 1 ∧ pt.armed = 0 from ⟨HPt.out.1, by have := HPt.out.2.1; omega, HPt.out.2.2⟩)
                  have HDT := Lib.hid HD.out.2.1
                  clear hdk TC BX2 HG2 HPt HD
                  rw [rounds_succ]
                  go_wp2_with fail
                  try clear y0 y1 y2 y3 p0 p1
                  try clear hsame hdk'
                  rw [rounds_succ]
                  go_wp2_with fail
                  go_roundw
                  case rel => exact ⟨q + 1, F2, Ft, p2, pt, d2, dt, by go_num, by omega, S2.out, TD.out, AP2.out, HON2.out, HPT.out, ⟨HZ2.out, HDT.out, HQ.out⟩, CC2.out⟩
                  case measure => simp [intOf]; omega
            | false =>
              have gk : (o.kind == 1) = true := by simpa using g1
              have hbp : Below (wr.alloc (.cells #[.int .i64 o.kind, .int .i64 o.dev, .int .i64 o.n, .int .u8 (o.b : Int), .slice o.A o.m o.c] 40)).heap.size (wr.alloc (.cells #[.int .i64 o.kind, .int .i64 o.dev, .int .i64 o.n, .int .u8 (o.b : Int), .slice o.A o.m o.c] 40)) ((wr.alloc (.cells #[.int .i64 o.kind, .int .i64 o.dev, .int .i64 o.n, .int .u8 (o.b : Int), .slice o.A o.m o.c] 40)).alloc (.cells #[.pointer (some ⟨g, 0, none⟩), .pointer (some ⟨g2, 0, none⟩)] 26)) := (Below.refl _ _).alloc (Nat.le_refl _) _
              have BX0 := bx_new wr o g g2
              have SB := Lib.hid (SA.out.below hbp)
              have TB := Lib.hid (TA.out.below hbp)
              have CB := Lib.hid (CA.out.trans (Chg.of_below hbp _))
              clear FIN SA TA CA hbp
              go_upto_region 15 with fail
              obtain ⟨z, hz⟩ : ∃ z, z = wr.heap.size := ⟨_, rfl⟩
              rw [← hz] at BX0 NZ ⊢
              revert SB TB CB BX0
              generalize World.alloc _ (.cells #[.pointer (some ⟨g, 0, none⟩), .pointer (some ⟨g2, 0, none⟩)] 26) = wz
              intro SB TB CB BX0
              have BX := Lib.hid BX0
              have hne := SB.out.other TB.out HAP.out
              have HE := Lib.hid (ptr_same wz g2)
              obtain ⟨y0, y1, y2, y3, p0, p1⟩ := BX0
              clear hz
              refine wp_loop_rounds 3 ?_
              rw [rounds_succ]
              go_upto_region 19 with fail
              clear y0 y1 y2 y3 p0 p1 hne
              have HA := Lib.hid (show ∀ W2, Below wz.drew.heap.size wz.drew W2 → W2.cell? ⟨z, 1, none⟩ = some (.int .i64 o.dev) ∧ W2.cell? ⟨z, 2, none⟩ = some (.int .i64 o.n) ∧ W2.cell? ⟨z, 3, none⟩ = some (.int .u8 (o.b : Int)) from fun W2 hw => by
                have hb2 : Below wz.heap.size wz W2 := (Below.refl _ wz).drew.trans hw
                obtain ⟨_, y1, y2, y3, _⟩ := BX.out
                exact ⟨(hb2.cell (World.block_lt_of_cell? _ _ y1)).trans y1, (hb2.cell (World.block_lt_of_cell? _ _ y2)).trans y2, (hb2.cell (World.block_lt_of_cell? _ _ y3)).trans y3⟩)
              refine wp_region_noPanic ?_
              refine wp_region_abs 8 148 [
                .is (.pointer (some ⟨g, 0, none⟩)),
                .is (.pointer (some ⟨z, 1, none⟩)),
                .is (.int .i64 o.dev),
                .is (.pointer (some ⟨z, 2, none⟩)),
                .is (.int .i64 o.n),
                .is (.pointer (some ⟨z, 3, none⟩)),
                .is (.int .u8 (o.b : Int)),
                .is (Sx.full o.b hob).val]
                [86, 87, 88, 89, 90, 91, 92, 93]
                [[], [], [1], [], [3], [], [5], [6]] (by kernel_rfl) (by rfl) rfl rfl (by kernel_rfl) (fun _ _ _ _ h => h.elim) ?_ ?_
              · refine ⟨?_, ?_, ?_, ?_, ?_, ?_, ?_, ?_, trivial⟩
                · intro W2 hw K hK
                  go_simp
                  exact hK _ _ rfl (Below.refl _ _)
                · intro W2 hw K hK
                  go_simp
                  exact hK _ _ rfl (Below.refl _ _)
                · intro W2 hw K hK
                  obtain ⟨e1, _, _⟩ := HA.out W2 hw
                  go_simp
                  exact hK _ _ rfl (Below.refl _ _)
                · intro W2 hw K hK
                  go_simp
                  exact hK _ _ rfl (Below.refl _ _)
                · intro W2 hw K hK
                  obtain ⟨_, e1, _⟩ := HA.out W2 hw
                  go_simp
                  exact hK _ _ rfl (Below.refl _ _)
                · intro W2 hw K hK
                  go_simp
                  exact hK _ _ rfl (Below.refl _ _)
                · intro W2 hw K hK
                  obtain ⟨_, _, e1⟩ := HA.out W2 hw
                  go_simp
                  exact hK _ _ rfl (Below.refl _ _)
                · intro W2 hw K hK
                  go_simp
                  refine Calls.mono (full_any o.b hob W2) ?_
                  rintro e w' ⟨rfl, hb⟩
                  exact hK _ _ rfl hb
              · intro W2 hw2
                simp only [Behind, List.drop, Act.put, List.setIfInBounds_toArray, List.set_cons_zero, List.set_cons_succ]
                have hb2 : Below wz.heap.size wz W2 := (Below.refl _ wz).drew.trans hw2
                have SW := Lib.hid (SB.out.below hb2)
                have CW := Lib.hid (Chg.of_below hb2 Fs)
                clear hw2 hb2 HA
                have HWR := Lib.hid (st_write SW.out o.dev o.n (Sx.full o.b hob) (by have := size_len3 HD.out.1; omega) (by omega) (by have := HPs.out.2.1; omega) (by have := HPs.out.2.2; omega))
                obtain ⟨f1, f2, f3, f4⟩ := writeM_on HPs.out.1 ds o.dev o.n (Sx.full o.b hob)
                have f5 := writeM_get HPs.out.1 ds o.dev o.n (Sx.full o.b hob) k
                obtain ⟨u, hu⟩ : ∃ u, u = writeM ps ds o.dev o.n (Sx.full o.b hob) := ⟨_, rfl⟩
                rw [← hu] at HWR f1 f2 f3 f4 f5
                obtain ⟨v2, p2, d2⟩ := u
                simp only [] at HWR f1 f2 f3 f4 f5
                have HON2 := Lib.hid (show On p2 ∧ p2.steps ≤ q + 1 ∧ p2.armed = 0 from ⟨f1, by have := HPs.out.2.1; omega, by have := HPs.out.2.2; omega⟩)
                have HZ2 := Lib.hid (f4.trans HD.out.1)
                have HG2 := Lib.hid f5
                clear hu f1 f2 f3 f4 f5
                go_wp2_with fail
                refine Calls.mono HWR.out ?_
                rintro e w2 ⟨rfl, F2, s9, c9⟩
                have S2 := Lib.hid s9
                have C2 := Lib.hid (CW.out.trans c9)
                clear s9 c9 HWR SW CW
                go_wp2_with fail
                refine NoPanic.normal ?_
                go_wp2_with fail
                have TC := Lib.hid (TB.out.keep C2.out fun k h1 h2 => HAP.out k h2 h1)
                have AP2 := Lib.hid (show ∀ k, F2 k → ¬ Ft k from fun k h1 h2 => by
                  rcases C2.out.new k h1 with e | e
                  · exact HAP.out k e h2
                  · have := TB.out.lt k h2; omega)
                have BX2 := Lib.hid (BX.out.later C2.out NZ.out.1)
                have CC2 := Lib.hid (CB.out.trans (C2.out.left Ft))
                clear TB SB C2 CB HAP BX HPs
                try clear y0 y1 y2 y3 p0 p1
                try clear hne
                have hsame := ptr_same w2 g2
                obtain ⟨y0, y1, y2, y3, p0, p1⟩ := BX2.out
                by_cases hdk : o.dev = (k : Int)
                · have hdk' : (o.dev != (k : Int)) = false := by rw [hdk]; simp
                  have HDK := Lib.hid hdk
                  clear hdk
                  rw [rounds_succ]
                  go_upto_region 19 with fail
                  clear y0 y1 y2 y3 p0 p1 hsame hdk'
                  have HA := Lib.hid (show ∀ W2, Below w2.drew.heap.size w2.drew W2 → W2.cell? ⟨z, 1, none⟩ = some (.int .i64 o.dev) ∧ W2.cell? ⟨z, 2, none⟩ = some (.int .i64 o.n) ∧ W2.cell? ⟨z, 3, none⟩ = some (.int .u8 (o.b : Int)) from fun W2 hw => by
                    have hb2 : Below w2.heap.size w2 W2 := (Below.refl _ w2).drew.trans hw
                    obtain ⟨_, y1, y2, y3, _⟩ := BX2.out
                    exact ⟨(hb2.cell (World.block_lt_of_cell? _ _ y1)).trans y1, (hb2.cell (World.block_lt_of_cell? _ _ y2)).trans y2, (hb2.cell (World.block_lt_of_cell? _ _ y3)).trans y3⟩)
                  refine wp_region_noPanic ?_
                  refine wp_region_abs 8 148 [
                    .is (.pointer (some ⟨g2, 0, none⟩)),
                    .is (.pointer (some ⟨z, 1, none⟩)),
                    .is (.int .i64 o.dev),
                    .is (.pointer (some ⟨z, 2, none⟩)),
                    .is (.int .i64 o.n),
                    .is (.pointer (some ⟨z, 3, none⟩)),
                    .is (.int .u8 (o.b : Int)),
                    .is (Sx.full o.b hob).val]
                    [86, 87, 88, 89, 90, 91, 92, 93]
                    [[], [], [1], [], [3], [], [5], [6]] (by kernel_rfl) (by rfl) rfl rfl (by kernel_rfl) (fun _ _ _ _ h => h.elim) ?_ ?_
                  · refine ⟨?_, ?_, ?_, ?_, ?_, ?_, ?_, ?_, trivial⟩
                    · intro W2 hw K hK
                      go_simp
                      exact hK _ _ rfl (Below.refl _ _)
                    · intro W2 hw K hK
                      go_simp
                      exact hK _ _ rfl (Below.refl _ _)
                    · intro W2 hw K hK
                      obtain ⟨e1, _, _⟩ := HA.out W2 hw
                      go_simp
                      exact hK _ _ rfl (Below.refl _ _)
                    · intro W2 hw K hK
                      go_simp
                      exact hK _ _ rfl (Below.refl _ _)
                    · intro W2 hw K hK
                      obtain ⟨_, e1, _⟩ := HA.out W2 hw
                      go_simp
                      exact hK _ _ rfl (Below.refl _ _)
                    · intro W2 hw K hK
                      go_simp
                      exact hK _ _ rfl (Below.refl _ _)
                    · intro W2 hw K hK
                      obtain ⟨_, _, e1⟩ := HA.out W2 hw
                      go_simp
                      exact hK _ _ rfl (Below.refl _ _)
                    · intro W2 hw K hK
                      go_simp
                      refine Calls.mono (full_any o.b hob W2) ?_
                      rintro e w' ⟨rfl, hb⟩
                      exact hK _ _ rfl hb
                  · intro W2 hw2
                    simp only [Behind, List.drop, Act.put, List.setIfInBounds_toArray, List.set_cons_zero, List.set_cons_succ]
                    have hb2 : Below w2.heap.size w2 W2 := (Below.refl _ w2).drew.trans hw2
                    have SW := Lib.hid (TC.out.below hb2)
                    have CW := Lib.hid (Chg.of_below hb2 Ft)
                    clear hw2 hb2 HA
                    have HWR := Lib.hid (st_write SW.out o.dev o.n (Sx.full o.b hob) (by have := size_len3 HD.out.2.1; omega) (by omega) (by have := HPt.out.2.1; omega) (by have := HPt.out.2.2; omega))
                    obtain ⟨f1, f2, f3, f4⟩ := writeM_on HPt.out.1 dt o.dev o.n (Sx.full o.b hob)
                    have f5 := writeM_get HPt.out.1 dt o.dev o.n (Sx.full o.b hob) k
                    obtain ⟨u, hu⟩ : ∃ u, u = writeM pt dt o.dev o.n (Sx.full o.b hob) := ⟨_, rfl⟩
                    rw [← hu] at HWR f1 f2 f3 f4 f5
                    obtain ⟨v3, p3, d3⟩ := u
                    simp only [] at HWR f1 f2 f3 f4 f5
                    have HON3 := Lib.hid (show On p3 ∧ p3.steps ≤ q + 1 ∧ p3.armed = 0 from ⟨f1, by have := HPt.out.2.1; omega, by have := HPt.out.2.2; omega⟩)
                    have HZ3 := Lib.hid (f4.trans HD.out.2.1)
                    have HG3 := Lib.hid f5
                    clear hu f1 f2 f3 f4 f5
                    go_wp2_with fail
                    refine Calls.mono HWR.out ?_
                    rintro e w3 ⟨rfl, F3, s9, c9⟩
                    have S3 := Lib.hid s9
                    have C3 := Lib.hid (CW.out.trans c9)
                    clear s9 c9 HWR SW CW
                    go_wp2_with fail
                    refine NoPanic.normal ?_
                    go_wp2_with fail
                    have S3' := Lib.hid (S2.out.keep C3.out fun k h1 h2 => AP2.out k h1 h2)
                    have AP3 := Lib.hid (C3.out.apart S2.out.lt AP2.out)
                    have HQ := Lib.hid (show d2[k]? = d3[k]? by
                      rw [HG2.out, HG3.out, HD.out.2.2, hasB_sizes (HD.out.1.trans HD.out.2.1.symm)])
                    have CC3 := Lib.hid (CC2.out.trans (C3.out.right F2))
                    try clear y0 y1 y2 y3 p0 p1
                    try clear hdk'
                    try clear hsame
                    clear AP2 S2 C3 CC2 BX2 HG2 HG3
                    rw [rounds_succ]
                    go_wp2_with fail
                    go_roundw
                    case rel => exact ⟨q + 1, F2, F3, p2, p3, d2, d3, by go_num, by omega, S3'.out, S3.out, AP3.out, HON2.out, HON3.out, ⟨HZ2.out, HZ3.out, HQ.out⟩, CC3.out⟩
                    case measure => simp [intOf]; omega
                · have hdk' : (o.dev != (k : Int)) = true := by simpa using hdk
                  have HQ := Lib.hid (show d2[k]? = dt[k]? by
                    rw [HG2.out, HD.out.2.2, if_neg (fun e => hdk (by omega))])
                  have TD := Lib.hid (TC.out.mono (show q ≤ q + 1 by omega))
                  have HPT := Lib.hid (show On pt ∧ pt.steps ≤ q + 1 ∧ pt.armed = 0 from ⟨HPt.out.1, by have := HPt.out.2.1; omega, HPt.out.2.2⟩)
                  have HDT := Lib.hid HD.out.2.1
                  clear hdk TC BX2 HG2 HPt HD
                  rw [rounds_succ]
                  go_wp2_with fail
                  try clear y0 y1 y2 y3 p0 p1
                  try clear hsame hdk'
                  rw [rounds_succ]
                  go_wp2_with fail
                  go_roundw
                  case rel => exact ⟨q + 1, F2, Ft, p2, pt, d2, dt, by go_num, by omega, S2.out, TD.out, AP2.out, HON2.out, HPT.out, ⟨HZ2.out, HDT.out, HQ.out⟩, CC2.out⟩
                  case measure => simp [intOf]; omega
      · obtain rfl : q = n := by omega
        have hq81 : q ≤ 81 := by have := HSH.out.1; have := HN.out; omega
        have hls : ds.length = 3 := size_len3 hD.1
        have hlt : dt.length = 3 := size_len3 hD.2.1
        have hks : k < ds.length := by omega
        have hkt : k < dt.length := by omega
        have hdd : dt[k] = ds[k] := by
          have := hD.2.2
          rw [List.getElem?_eq_getElem hks, List.getElem?_eq_getElem hkt] at this
          injection this with this
          exact this.symm
        have hz4 : ds[k].size = 4 := by
          have h1 : (ds.map Dk.size)[k]? = some 4 := by
            rw [hD.1]
            have : k = 0 ∨ k = 1 ∨ k = 2 := by omega
            rcases this with rfl | rfl | rfl <;> rfl
          rw [List.getElem?_map, List.getElem?_eq_getElem hks] at h1
          simpa using h1
        have HRS := Lib.hid (fun (W : World) (hb : Below wr.heap.size wr W) (j : Nat) (hj : j < 4) => st_read (hS.below hb) k hks (j : Int) (by omega) (by omega) ⟨by omega, by rw [hz4]; omega⟩ hPs.1.2)
        have HRT := Lib.hid (fun (W : World) (hb : Below wr.heap.size wr W) (j : Nat) (hj : j < 4) => st_read (hT.below hb) k hkt (j : Int) (by omega) (by omega) ⟨by omega, by rw [hdd, hz4]; omega⟩ hPt.1.2)
        have HSS := Lib.hid (fun (W : World) (hb : Below wr.heap.size wr W) (j : Nat) (hj : j < 4) => st_sure (hS.below hb) k hks (j : Int) (by omega) ⟨by omega, by rw [hz4]; omega⟩)
        have HST := Lib.hid (fun (W : World) (hb : Below wr.heap.size wr W) (j : Nat) (hj : j < 4) => st_sure (hT.below hb) k hkt (j : Int) (by omega) ⟨by omega, by rw [hdd, hz4]; omega⟩)
        have HWS := Lib.hid (fun (W : World) (hb : Below wr.heap.size wr W) => st_waiting (hS.below hb) k hks (by omega) (by omega))
        have HWT := Lib.hid (fun (W : World) (hb : Below wr.heap.size wr W) => st_waiting (hT.below hb) k hkt (by omega) (by rw [hdd]; omega))
        rw [hdd] at HRT HST HWT
        obtain ⟨d, hd⟩ : ∃ d, d = ds[k] := ⟨_, rfl⟩
        rw [← hd] at HRS HRT HSS HST HWS HWT
        have CC := Lib.hid hC
        clear hS hT hap hPs hPt hD hC HD HPs HPt HAP hls hlt hks hkt hdd hz4 hd
        go_wp2_with fail
        rename World => wq
        go_loopw [101] (fun i wr => ∃ j : Nat, i = .int .i64 (j : Int) ∧ j ≤ 4 ∧ Below wq.heap.size wq wr) (fun i _ => 4 - (intOf i).toNat)
        case atStart => exact ⟨0, rfl, by omega, Below.refl _ _⟩
        case round =>
          obtain ⟨j, rfl, hj4, hb⟩ := hrel
          have BB := Lib.hid hb
          clear hb
          by_cases hj : j < 4
          · have HC1 := Lib.hid (HRS.out wr BB.out j hj)
            go_wp2_with fail
            refine Calls.mono HC1.out ?_
            rintro e w5 ⟨rfl, b5⟩
            obtain ⟨x, hx⟩ : ∃ x, x = readM d (j : Int) := ⟨_, rfl⟩
            have HX := Lib.hid hx
            rw [← hx]
            have hst := SBlk.store (w := w5.alloc (.cells Sx.zero.arr 50)) (z := Sx.zero) (heap_alloc_new w5 _) x
            rw [World.setRow_alloc_new, ← zero_arr] at hst
            have bb := BB.out.trans (b5.mono BB.out.size)
            have B5 := Lib.hid (bb.alloc bb.size (.cells x.arr 50))
            have X5 := Lib.hid (show SBlk (w5.alloc (.cells x.arr 50)) w5.heap.size x from heap_alloc_new w5 _)
            clear bb b5 BB HC1 hx
            go_upto_region 27 with (refine wpList_store_val rfl (.tmp 14) (.tmp 109) rfl rfl x.val rfl hst ?_)
            clear hst
            obtain ⟨g5, hg5⟩ : ∃ g5, g5 = w5.heap.size := ⟨_, rfl⟩
            rw [← hg5] at X5 ⊢
            clear hg5
            revert B5 X5
            generalize World.alloc w5 _ = w6
            intro B5 X5
            have HC1 := Lib.hid (HRT.out w6 B5.out j hj)
            go_wp2_with fail
            refine Calls.mono HC1.out ?_
            rintro e w7 ⟨rfl, b7⟩
            rw [← HX.out]
            have hst := SBlk.store (w := w7.alloc (.cells Sx.zero.arr 50)) (z := Sx.zero) (heap_alloc_new w7 _) x
            rw [World.setRow_alloc_new, ← zero_arr] at hst
            have bb := B5.out.trans (b7.mono B5.out.size)
            have B7 := Lib.hid (bb.alloc bb.size (.cells x.arr 50))
            have X7 := Lib.hid (show SBlk (w7.alloc (.cells x.arr 50)) w7.heap.size x from heap_alloc_new w7 _)
            have Y7 := Lib.hid (SBlk.below (SBlk.below X5.out b7) ((Below.refl w7.heap.size w7).alloc (Nat.le_refl _) (.cells x.arr 50)))
            clear bb b7 B5 X5 HC1
            go_upto_region 28 with (refine wpList_store_val rfl (.tmp 16) (.tmp 116) rfl rfl x.val rfl hst ?_)
            clear hst
            obtain ⟨g7, hg7⟩ : ∃ g7, g7 = w7.heap.size := ⟨_, rfl⟩
            rw [← hg7] at X7 ⊢
            clear hg7
            revert B7 X7 Y7
            generalize World.alloc w7 _ = w8
            intro B7 Y7 X7
            have HL1 := X7.out.load
            have HL2 := Y7.out.load
            have he1 := neq_sx x x w8
            rw [decide_eq_true rfl] at he1
            have he2 := guard_sx .neq (.tmp 125) (.tmp 126) x x w8
            have HC1 := Lib.hid (HSS.out w8 B7.out j hj)
            go_wp2_with (first | (refine wpList_load_val (by rfl) (.tmp 14) rfl rfl x.val HL2 ?_) | (refine wpList_load_val (by rfl) (.tmp 16) rfl rfl x.val HL1 ?_))
            refine Calls.mono HC1.out ?_
            rintro e w9 ⟨rfl, b9⟩
            have B9 := Lib.hid (B7.out.trans (b9.mono B7.out.size))
            have HC2 := Lib.hid (HST.out w9 B9.out j hj)
            clear b9 B7 HC1 he1 he2 HL1 HL2
            go_wp2_with fail
            refine Calls.mono HC2.out ?_
            rintro e wa ⟨rfl, ba⟩
            have BA := Lib.hid (B9.out.trans (ba.mono B9.out.size))
            have he1 := neq_sx (d.sure (j : Int)) (d.sure (j : Int)) wa
            rw [decide_eq_true rfl] at he1
            have he2 := guard_sx .neq (.tmp 133) (.tmp 137) (d.sure (j : Int)) (d.sure (j : Int)) wa
            clear ba B9 HC2
            go_wp2_with fail
            go_roundw
            case rel => exact ⟨j + 1, by go_num, by omega, BA.out⟩
            case measure => simp [intOf]; omega
          · obtain rfl : j = 4 := by omega
            have HC1 := Lib.hid (HWS.out wr BB.out)
            have HC2 := Lib.hid (HWT.out wr BB.out)
            go_wp2_with fail
            refine Calls.mono HC1.out ?_
            rintro e w5 ⟨rfl, rfl⟩
            go_wp2_with fail
            refine Calls.mono HC2.out ?_
            rintro e w6 ⟨rfl, rfl⟩
            have C9 := Lib.hid (CC.out.trans (Chg.of_below BB.out _))
            go_wp2_with fail
            go_ret
            exact ⟨by simp, C9.out.below (Nat.le_refl _) (fun _ h => h.elim)⟩
end Go.Proofs.Ythmebgpleegonaa
