/- YtkeckjgihjpfbaaDoorRefE: put together. -/
import Derived.Test.YtkeckjgihjpfbaaDoorZQ1
/- Layer 7: the document's code of a line, walked. -/
namespace Go.Proofs.YtkeckjgihjpfbaaDoor
set_option maxRecDepth 100000
open Go.RowKit
attribute [local go_sem ↓] Go.wp_at_zero Go.wp_at_succ

theorem extract_rest (v : List UInt8) : (tx v).extract 1 v.length = tx (v.drop 1) := by
  rw [← tx_of ((tx v).extract 1 v.length)]
  congr 1
  rw [ByteArray.data_extract, Array.toList_extract, tx_data, List.extract_eq_take_drop, List.take_of_length_le (by rw [List.length_drop]; exact Nat.le_refl _)]
theorem zvals_set (a : Int) : (Ins.zero.vals.toArray.setIfInBounds 0 (.int .i64 a)) = ({ Ins.zero with op := a } : Ins).vals.toArray := rfl
set_option maxHeartbeats 16000000 in
theorem rcode_op (line w0 : List UInt8) (ws : List (List UInt8)) (hsp : splitC 32 line = w0 :: ws) (hln : line.length ≤ 100000) (w : World) : Calls Tryd.prog 61 #[.string (tx line)] w fun e w' => CodeE line w w' e := by
  have hw1 := (Below.refl w.heap.size w).alloc (Nat.le_refl _) (.cells #[.int .i64 0, .int .i64 0, .int .i64 0, .int .i64 0, .int .i64 0, .int .i64 0] 43)
  have HW1 := Lib.hid hw1
  have HOU1 := Lib.hid (heap_alloc_new w (.cells #[.int .i64 0, .int .i64 0, .int .i64 0, .int .i64 0, .int .i64 0, .int .i64 0] 43))
  have HRW := Lib.hid (refwords_any line hln (w.alloc (.cells #[.int .i64 0, .int .i64 0, .int .i64 0, .int .i64 0, .int .i64 0, .int .i64 0] 43)))
  have hwl := splitC_len 32 line
  rw [hsp] at HRW hwl
  have hn1 : ws.length ≤ 100000 := by have := hwl.1; rw [List.length_cons] at this; omega
  have HWL := Lib.hid (show ∀ v ∈ ws, v.length ≤ 100000 from fun v hv => by have := hwl.2 v (List.mem_cons_of_mem _ hv); omega)
  have hw0 : w0.length ≤ 100000 := by have := hwl.2 w0 (List.mem_cons_self ..); omega
  obtain ⟨op, hop⟩ : ∃ op, op = opOf w0 := ⟨_, rfl⟩
  have HOU16 := Lib.hid (show opU w0 16 = op by rw [hop]; exact opU_at w0)
  have HOPR := Lib.hid (show op = -1 ∨ (0 ≤ op ∧ op < 16) by
    rcases opOf_ways w0 with ⟨h, _⟩ | ⟨h, _⟩
    · exact .inl (by rw [hop]; exact h)
    · exact .inr (by rw [hop]; exact h))
  have hsh := fun W => refshape_any op W
  obtain ⟨ls, hls⟩ : ∃ ls, ls = shapeL op := ⟨_, rfl⟩
  have HSM := Lib.hid (show ∀ y ∈ ls, y < 256 by rw [hls]; exact shapeL_small _)
  have HLET := Lib.hid (show ∀ l ∈ ls, l = 97 ∨ l = 98 ∨ l = 99 ∨ l = 116 ∨ l = 110 ∨ l = 107 ∨ l = 115 ∨ l = 106 by rw [hls]; exact fun l h => letters h)
  have hlen : ls.length ≤ 5 := by rw [hls]; exact shapeL_len _
  rw [← hls] at hsh
  have HNONE := Lib.hid (show op < 0 ∨ ws.length ≠ ls.length → insOf line = none by
    subst hls
    intro h
    rcases h with h | h
    · exact line_none hsp (.inl (by rw [← hop]; exact decide_eq_false (by omega)))
    · exact line_none hsp (.inr (.inl (by rw [← hop]; exact h))))
  have HEND := Lib.hid (show (0 ≤ op ∧ op < 16) → ∀ zs : List Int, zs.length = ls.length → ws.length = ls.length → (∀ (i : Nat) (ha : i < ls.length) (hb : i < ws.length) (hc : i < zs.length), rvalR ls[i] ws[i] = zs[i]) → insOf line = if lineL (setAll op ls zs) = line then some (setAll op ls zs) else none by
    subst hls hop
    intro h zs h1 h2 h3
    exact rcode_end hsp h zs h1 h2 h3)
  obtain ⟨s, hs⟩ : ∃ s, s = strN ls := ⟨_, rfl⟩
  obtain ⟨m, hm⟩ : ∃ m, m = ls.length := ⟨_, rfl⟩
  have hsz : s.size = m := by rw [hs, strN_size, hm]
  have HIX := Lib.hid (fun k (hk : k < ls.length) w => (by rw [hs]; exact idx_str ls HSM.out k hk w : (Instr.index 9 (.string s) (.int .i64 (k : Int))).run Tryd.prog w = .ok (.int .u8 ((ls[k] : Nat) : Int)) w))
  rw [← hs] at hsh
  have HSH := Lib.hid hsh
  have HM := Lib.hid hm
  rw [← hm] at hlen
  have HSET0 := Lib.hid (show setAll op [] [] = setAll op (ls.take 0) [] from rfl)
  have HSN := Lib.hid (setAll_snoc op ls)
  obtain ⟨T, hT⟩ : ∃ T, T = tx line := ⟨_, rfl⟩
  have HTE := Lib.hid (show ∀ x : Ins, ((tx (lineL x)).toList == T.toList) = decide (lineL x = line) from fun x => by
    rw [hT, tx_toList, tx_toList]
    by_cases h : lineL x = line
    · rw [h]; simp
    · rw [decide_eq_false h]; exact beq_eq_false_iff_ne.2 h)
  rw [← hT] at HRW ⊢
  clear hsh hls hs hm hT hop hwl hw1 hsp
  go_enter Tryd.func61, Tryd.ntmps61
  go_wp2_with fail
  refine Calls.mono HRW.out ?_
  rintro e w2 ⟨gl, cap, rfl, hown2, hb2⟩
  have HWC := Lib.hid (words_at hown2 (by rfl))
  have hbl := hown2.lt gl rfl
  rw [World.size_alloc] at hbl hb2
  have HB2 := Lib.hid (HW1.out.trans (hb2.mono (by omega)))
  have HO2 := Lib.hid (box_later HOU1.out (by rw [World.size_alloc]; exact hb2))
  clear hown2
  go_upto_region 3 with fail
  change Code.wp _ _ _ _ (startR w2)
  obtain ⟨W, hW⟩ : ∃ W, W = startR w2 := ⟨_, rfl⟩
  have hbs := (Below.refl w2.heap.size w2).alloc (Nat.le_refl _) (.cells #[.int .i64 (-1), .int .i64 0, .int .i64 0, .int .i64 0, .int .i64 0, .int .i64 0] 43)
  have HCI0 := Lib.hid (show CI w w2.heap.size gl (w0 :: ws) { Ins.zero with op := opU w0 0 } W from by
    rw [hW]
    exact ⟨HB2.out.trans (hbs.mono HB2.out.size), box_later HO2.out hbs, heap_alloc_new w2 _, by omega, hbl.2, fun j hj => (hbs.cell (p := ⟨gl, j, none⟩) hbl.2).trans (HWC.out j hj)⟩)
  obtain ⟨g, hg⟩ : ∃ g, g = w2.heap.size := ⟨_, rfl⟩
  rw [← hg] at HCI0 ⊢
  rw [← hW]
  clear hW hg hb2 hbl hbs
  go_wp2_with fail
  go_loopw [6] (fun i wr => ∃ k : Nat, i = .int .i64 (k : Int) ∧ k ≤ 16 ∧ CI w g gl (w0 :: ws) { Ins.zero with op := opU w0 k } wr) (fun i _ => 16 - (intOf i).toNat)
  case atStart => exact ⟨0, rfl, by omega, HCI0.out⟩
  case round =>
    obtain ⟨k, rfl, hk, hci⟩ := hrel
    have HCI := Lib.hid hci
    clear hci
    by_cases hlt : k < 16
    · have hcell : wr.cell? ⟨gl, 0, none⟩ = some (.string (tx w0)) := HCI.out.words 0 (by simp)
      have HRD := Lib.hid (refword_any (k : Int))
      have hte : ((tx (wordL (k : Int))).toList == (tx w0).toList) = decide (wordL (k : Int) = w0) := by
        rw [tx_toList, tx_toList]
        by_cases h : wordL (k : Int) = w0
        · rw [h]; simp
        · rw [decide_eq_false h]; exact beq_eq_false_iff_ne.2 h
      obtain ⟨t0, ht0⟩ : ∃ t, t = tx w0 := ⟨_, rfl⟩
      obtain ⟨tk, htk⟩ : ∃ t, t = tx (wordL (k : Int)) := ⟨_, rfl⟩
      rw [← ht0] at hcell hte
      rw [← htk] at hte HRD
      have hpos : (0 : Int) < (ws.length : Int) + 1 := by omega
      have HXX := Lib.hid (show ∀ w' : World, Below wr.heap.size wr w' → w'.cell? ⟨gl, 0, none⟩ = some (.string t0) ∧ Below wr.heap.size wr w' from fun w' h => ⟨(h.cell (p := ⟨gl, 0, none⟩) (World.block_lt_of_cell? _ _ hcell)).trans hcell, h⟩)
      have HU := Lib.hid (show opU w0 (k + 1) = if wordL (k : Int) = w0 then (k : Int) else opU w0 k from rfl)
      clear ht0 htk hcell
      by_cases he : wordL (k : Int) = w0
      case' pos =>
        rw [decide_eq_true he] at hte
        have HU := Lib.hid (HU.out.trans (if_pos he))
      case' neg =>
        rw [decide_eq_false he] at hte
        have HU := Lib.hid (HU.out.trans (if_neg he))
      all_goals
        clear he
        go_wp2_with fail
        go_region_held3 (fun w' => w'.cell? ⟨gl, 0, none⟩ = some (.string t0) ∧ Below wr.heap.size wr w')
          (first | exact HXX.out _ (Below.refl _ wr).drew | (go_split_ands; exact HXX.out _ (Below.trans (by assumption) (hbK.mono (Below.size (by assumption))))))
          (first | (go_at_call 35; go_split_ands; (with_reducible refine Calls.mono (HRD.out _) ?_); rintro e w6 ⟨rfl, hbK⟩))
        all_goals
          rename_i hHeld
          have HCI := Lib.hid (HCI.out.later hHeld.2)
          clear hHeld hbK hte
          rename World => w7
          have hfr : w7.frozen? ⟨g, 0, none⟩ = false := by simp [World.frozen?, HCI.out.cur]
          have hce : w7.cell? ⟨g, 0, none⟩ = some (.int .i64 (opU w0 k)) := cell_of_row w7 _ 0 _ 43 (0, 0) HCI.out.cur
          go_wp2_with fail
          go_roundw
          case rel => exact ⟨k + 1, by go_num, by omega, by rw [HU.out]; first | exact HCI.out.setOp _ | exact HCI.out⟩
          case measure => simp [intOf]; omega
    · obtain rfl : k = 16 := by omega
      have HCI := Lib.hid (show CI w g gl (w0 :: ws) (setAll op (ls.take 0) []) wr from by
        have h := HCI.out
        rw [HOU16.out] at h
        rw [← HSET0.out]
        exact h)
      clear HCI0
      have g0 : wr.cell? ⟨g, 0, none⟩ = some (.int .i64 op) := cell_of_row wr _ 0 _ 43 (0, 0) HCI.out.cur
      clear hlt hk
      go_wp2_with fail
      refine Calls.mono (HSH.out _) ?_
      rintro e w3 ⟨rfl, rfl⟩
      by_cases hneg : op < 0
      · have HI := Lib.hid (HNONE.out (.inl hneg))
        have dn : decide (op < 0) = true := decide_eq_true hneg
        obtain ⟨x, hx⟩ : ∃ x, x = setAll op (ls.take 0) [] := ⟨_, rfl⟩
        rw [← hx] at HCI
        have hxo : x.op = op := by rw [hx]; rfl
        rw [← hxo] at hneg dn g0 ⊢
        clear hx hxo
        clear g0
        obtain ⟨⟨g0, g1, g2, g3, g4, g5⟩, ⟨z0, z1, z2, z3, z4, z5⟩, fz⟩ := HCI.out.toJ.cells
        have f0 := fz 0
        have f1 := fz 1
        have f2 := fz 2
        have f3 := fz 3
        have f4 := fz 4
        have f5 := fz 5
        have HJ := Lib.hid HCI.out.toJ.set
        clear fz
        go_wp2_with fail
        refine bodyPost_ret (results61 _ w.heap.size x (.bool false) HJ.out.out _ rfl rfl) rfl ⟨x, false, rfl, HI.out, HJ.out.below⟩
      · have dn : decide (op < 0) = false := decide_eq_false hneg
        have HOK := Lib.hid (show 0 ≤ op ∧ op < 16 by rcases HOPR.out with h | h <;> omega)
        by_cases hmm : ws.length = m
        · have d1 : (((ws.length : Int) + 1) != 1 + (m : Int)) = false := by rw [bne_eq_false_iff_eq]; omega
          have HMM := Lib.hid hmm
          clear hmm
          go_wp2_with fail
          clear g0 d1 dn hneg
          go_loopw [8] (fun i wr => ∃ (k : Nat) (zs : List Int), i = .int .i64 (k : Int) ∧ k ≤ m ∧ zs.length = k ∧ ((∀ (j : Nat) (ha : j < ls.length) (hb : j < ws.length) (hc : j < zs.length), rvalR ls[j] ws[j] = zs[j]) ∧ ∀ z ∈ zs, Fits z) ∧ CI w g gl (w0 :: ws) (setAll op (ls.take k) zs) wr) (fun i _ => m - (intOf i).toNat)
          case atStart => exact ⟨0, [], rfl, by omega, rfl, ⟨fun j _ _ hc => absurd hc (by simp), by simp⟩, HCI.out⟩
          case round =>
            obtain ⟨k, zs, rfl, hk, hzl, hzs, hci⟩ := hrel
            rename World => wq
            have HZL := Lib.hid hzl
            have HZS := Lib.hid hzs
            have HCK := Lib.hid hci
            clear hzl hzs hci HCI
            by_cases hlt : k < m
            · have hkl : k < ls.length := by rw [← HM.out]; exact hlt
              have hkw : k < ws.length := by rw [HMM.out]; exact hlt
              have hix := HIX.out k hkl
              have hcell : wq.cell? ⟨gl, 1 + k, none⟩ = some (.string (tx ws[k])) := by rw [Nat.add_comm]; exact HCK.out.words (k + 1) (by simp; exact hkw)
              have hltw := HWL.out _ (List.getElem_mem hkw)
              have HSK := Lib.hid (fun z => HSN.out zs k hkl HZL.out z)
              have HVS := Lib.hid (show (∀ (j : Nat) (ha : j < ls.length) (hb : j < ws.length) (hc : j < (zs ++ [rvalR ls[k] ws[k]]).length), rvalR ls[j] ws[j] = (zs ++ [rvalR ls[k] ws[k]])[j]) ∧ ∀ z ∈ zs ++ [rvalR ls[k] ws[k]], Fits z from ⟨fun j ha hb hc => by
                rcases Nat.lt_or_ge j k with h | h
                · rw [List.getElem_append_left (by rw [HZL.out]; exact h)]
                  exact HZS.out.1 j ha hb (by rw [HZL.out]; exact h)
                · have hjk : j = k := by rw [List.length_append, HZL.out] at hc; simp at hc; omega
                  subst hjk
                  rw [List.getElem_append_right (by rw [HZL.out]; exact Nat.le_refl _)]
                  simp [HZL.out], fun z hz => by
                rcases List.mem_append.1 hz with h | h
                · exact HZS.out.2 z h
                · rw [List.mem_singleton.1 h]; exact rvalR_fits _ _⟩)
              have HLT := Lib.hid (HLET.out _ (List.getElem_mem hkl))
              obtain ⟨l, hl⟩ : ∃ l, l = ls[k] := ⟨_, rfl⟩
              obtain ⟨v, hv⟩ : ∃ v, v = ws[k] := ⟨_, rfl⟩
              rw [← hl] at hix HSK HVS HLT
              rw [← hv] at hcell hltw HVS
              have HSET := Lib.hid (HCK.out.set (offL l) (offL_le l) (rvalR l v))
              rw [← HSK.out] at HSET
              have HFIN := Lib.hid (show (zs ++ [rvalR l v]).length = k + 1 by rw [List.length_append, HZL.out]; rfl)
              clear hl hv hkl HSK HZL HZS
              obtain ⟨zz, hzz⟩ : ∃ z, z = rvalR l v := ⟨_, rfl⟩
              rw [← hzz] at HVS HSET HFIN
              have HZ0 := Lib.hid hzz
              clear hzz
              have hrl : (restR l v).length ≤ 100000 := by
                unfold restR
                split
                · rw [List.length_drop]; omega
                · exact hltw
              have HNB := refnumber_any (restR l v) hrl wq
              unfold optV at HNB
              have hce : ∀ o, 1 ≤ o ∧ o ≤ 5 → wq.cell? ⟨g, o, none⟩ = some (.int .i64 ((setAll op (ls.take k) zs).get o)) := fun o ho => by rw [cell_of_row wq _ _ _ 43 (0, 0) HCK.out.cur]; exact get_at _ o ho
              have hfr : ∀ o, wq.frozen? ⟨g, o, none⟩ = false := fun o => by simp [World.frozen?, HCK.out.cur]
              have ce := hce (offL l) (offL_le l)
              have fr := hfr (offL l)
              clear hce hfr hrl
              have hTs : (tx v).size = v.length := tx_size v
              rcases HLT.out with rfl | rfl | rfl | rfl | rfl | rfl | rfl | rfl
              · have hix : (Instr.index 9 (.string s) (.int .i64 (k : Int))).run Tryd.prog wq = .ok (.int .u8 97) wq := hix wq
                have ce : wq.cell? ⟨g, 1, none⟩ = some (.int .i64 ((setAll op (ls.take k) zs).get 1)) := ce
                have fr : wq.frozen? ⟨g, 1, none⟩ = false := fr
                have hzz : zz = (numO (restR 97 v)).getD 0 := HZ0.out
                obtain ⟨N, hN⟩ : ∃ N, N = v.length := ⟨_, rfl⟩
                rw [← hN] at hTs hltw
                by_cases hv0 : 0 < N
                · have hr : restR 97 v = v.drop 1 := by unfold restR; rw [if_pos ⟨by decide, by omega⟩]
                  have hex : (tx v).extract 1 N = tx (v.drop 1) := by rw [hN]; exact extract_rest v
                  rw [hr] at HNB hzz
                  have hv1 : 1 ≤ N := hv0
                  have hv2 : (0 : Int) < (N : Int) := by omega
                  have hv3 : decide (0 < N) = true := decide_eq_true hv0
                  have hv4 : (1 : Int) ≤ (N : Int) := by omega
                  obtain ⟨T1, hT1⟩ : ∃ T, T = tx (v.drop 1) := ⟨_, rfl⟩
                  obtain ⟨T2, hT2⟩ : ∃ T, T = tx v := ⟨_, rfl⟩
                  obtain ⟨O, hO⟩ : ∃ O, O = numO (v.drop 1) := ⟨_, rfl⟩
                  rw [← hT1] at hex HNB
                  rw [← hT2] at hex hTs hcell
                  rw [← hO] at HNB hzz
                  have HNB := Lib.hid HNB
                  have HZZ := Lib.hid hzz
                  clear hT1 hT2 hO hr hN hv0 HLT hzz
                  go_wp2_with fail
                  refine Calls.mono HNB.out ?_
                  rintro e w4 ⟨rfl, rfl⟩
                  go_wp2_with fail
                  go_roundw
                  case rel => exact ⟨k + 1, zs ++ [zz], by go_num, by omega, HFIN.out, HVS.out, by rw [HZZ.out] at HSET ⊢; exact HSET.out⟩
                  case measure => simp [intOf]; omega
                · have hv0 : N = 0 := by omega
                  subst hv0
                  have hr : restR 97 v = v := by unfold restR; rw [if_neg (by rw [← hN]; rintro ⟨_, h⟩; exact absurd h (by decide))]
                  rw [hr] at HNB hzz
                  obtain ⟨T2, hT2⟩ : ∃ T, T = tx v := ⟨_, rfl⟩
                  obtain ⟨O, hO⟩ : ∃ O, O = numO v := ⟨_, rfl⟩
                  rw [← hT2] at HNB hTs hcell
                  rw [← hO] at HNB hzz
                  have HNB := Lib.hid HNB
                  have HZZ := Lib.hid hzz
                  clear hT2 hO hr hN HLT hzz
                  go_wp2_with fail
                  refine Calls.mono HNB.out ?_
                  rintro e w4 ⟨rfl, rfl⟩
                  go_wp2_with fail
                  go_roundw
                  case rel => exact ⟨k + 1, zs ++ [zz], by go_num, by omega, HFIN.out, HVS.out, by rw [HZZ.out] at HSET ⊢; exact HSET.out⟩
                  case measure => simp [intOf]; omega
              · have hix : (Instr.index 9 (.string s) (.int .i64 (k : Int))).run Tryd.prog wq = .ok (.int .u8 98) wq := hix wq
                have ce : wq.cell? ⟨g, 2, none⟩ = some (.int .i64 ((setAll op (ls.take k) zs).get 2)) := ce
                have fr : wq.frozen? ⟨g, 2, none⟩ = false := fr
                have hzz : zz = (numO (restR 98 v)).getD 0 := HZ0.out
                obtain ⟨N, hN⟩ : ∃ N, N = v.length := ⟨_, rfl⟩
                rw [← hN] at hTs hltw
                by_cases hv0 : 0 < N
                · have hr : restR 98 v = v.drop 1 := by unfold restR; rw [if_pos ⟨by decide, by omega⟩]
                  have hex : (tx v).extract 1 N = tx (v.drop 1) := by rw [hN]; exact extract_rest v
                  rw [hr] at HNB hzz
                  have hv1 : 1 ≤ N := hv0
                  have hv2 : (0 : Int) < (N : Int) := by omega
                  have hv3 : decide (0 < N) = true := decide_eq_true hv0
                  have hv4 : (1 : Int) ≤ (N : Int) := by omega
                  obtain ⟨T1, hT1⟩ : ∃ T, T = tx (v.drop 1) := ⟨_, rfl⟩
                  obtain ⟨T2, hT2⟩ : ∃ T, T = tx v := ⟨_, rfl⟩
                  obtain ⟨O, hO⟩ : ∃ O, O = numO (v.drop 1) := ⟨_, rfl⟩
                  rw [← hT1] at hex HNB
                  rw [← hT2] at hex hTs hcell
                  rw [← hO] at HNB hzz
                  have HNB := Lib.hid HNB
                  have HZZ := Lib.hid hzz
                  clear hT1 hT2 hO hr hN hv0 HLT hzz
                  go_wp2_with fail
                  refine Calls.mono HNB.out ?_
                  rintro e w4 ⟨rfl, rfl⟩
                  go_wp2_with fail
                  go_roundw
                  case rel => exact ⟨k + 1, zs ++ [zz], by go_num, by omega, HFIN.out, HVS.out, by rw [HZZ.out] at HSET ⊢; exact HSET.out⟩
                  case measure => simp [intOf]; omega
                · have hv0 : N = 0 := by omega
                  subst hv0
                  have hr : restR 98 v = v := by unfold restR; rw [if_neg (by rw [← hN]; rintro ⟨_, h⟩; exact absurd h (by decide))]
                  rw [hr] at HNB hzz
                  obtain ⟨T2, hT2⟩ : ∃ T, T = tx v := ⟨_, rfl⟩
                  obtain ⟨O, hO⟩ : ∃ O, O = numO v := ⟨_, rfl⟩
                  rw [← hT2] at HNB hTs hcell
                  rw [← hO] at HNB hzz
                  have HNB := Lib.hid HNB
                  have HZZ := Lib.hid hzz
                  clear hT2 hO hr hN HLT hzz
                  go_wp2_with fail
                  refine Calls.mono HNB.out ?_
                  rintro e w4 ⟨rfl, rfl⟩
                  go_wp2_with fail
                  go_roundw
                  case rel => exact ⟨k + 1, zs ++ [zz], by go_num, by omega, HFIN.out, HVS.out, by rw [HZZ.out] at HSET ⊢; exact HSET.out⟩
                  case measure => simp [intOf]; omega
              · have hix : (Instr.index 9 (.string s) (.int .i64 (k : Int))).run Tryd.prog wq = .ok (.int .u8 99) wq := hix wq
                have ce : wq.cell? ⟨g, 3, none⟩ = some (.int .i64 ((setAll op (ls.take k) zs).get 3)) := ce
                have fr : wq.frozen? ⟨g, 3, none⟩ = false := fr
                have hzz : zz = (numO (restR 99 v)).getD 0 := HZ0.out
                obtain ⟨N, hN⟩ : ∃ N, N = v.length := ⟨_, rfl⟩
                rw [← hN] at hTs hltw
                by_cases hv0 : 0 < N
                · have hr : restR 99 v = v.drop 1 := by unfold restR; rw [if_pos ⟨by decide, by omega⟩]
                  have hex : (tx v).extract 1 N = tx (v.drop 1) := by rw [hN]; exact extract_rest v
                  rw [hr] at HNB hzz
                  have hv1 : 1 ≤ N := hv0
                  have hv2 : (0 : Int) < (N : Int) := by omega
                  have hv3 : decide (0 < N) = true := decide_eq_true hv0
                  have hv4 : (1 : Int) ≤ (N : Int) := by omega
                  obtain ⟨T1, hT1⟩ : ∃ T, T = tx (v.drop 1) := ⟨_, rfl⟩
                  obtain ⟨T2, hT2⟩ : ∃ T, T = tx v := ⟨_, rfl⟩
                  obtain ⟨O, hO⟩ : ∃ O, O = numO (v.drop 1) := ⟨_, rfl⟩
                  rw [← hT1] at hex HNB
                  rw [← hT2] at hex hTs hcell
                  rw [← hO] at HNB hzz
                  have HNB := Lib.hid HNB
                  have HZZ := Lib.hid hzz
                  clear hT1 hT2 hO hr hN hv0 HLT hzz
                  go_wp2_with fail
                  refine Calls.mono HNB.out ?_
                  rintro e w4 ⟨rfl, rfl⟩
                  go_wp2_with fail
                  go_roundw
                  case rel => exact ⟨k + 1, zs ++ [zz], by go_num, by omega, HFIN.out, HVS.out, by rw [HZZ.out] at HSET ⊢; exact HSET.out⟩
                  case measure => simp [intOf]; omega
                · have hv0 : N = 0 := by omega
                  subst hv0
                  have hr : restR 99 v = v := by unfold restR; rw [if_neg (by rw [← hN]; rintro ⟨_, h⟩; exact absurd h (by decide))]
                  rw [hr] at HNB hzz
                  obtain ⟨T2, hT2⟩ : ∃ T, T = tx v := ⟨_, rfl⟩
                  obtain ⟨O, hO⟩ : ∃ O, O = numO v := ⟨_, rfl⟩
                  rw [← hT2] at HNB hTs hcell
                  rw [← hO] at HNB hzz
                  have HNB := Lib.hid HNB
                  have HZZ := Lib.hid hzz
                  clear hT2 hO hr hN HLT hzz
                  go_wp2_with fail
                  refine Calls.mono HNB.out ?_
                  rintro e w4 ⟨rfl, rfl⟩
                  go_wp2_with fail
                  go_roundw
                  case rel => exact ⟨k + 1, zs ++ [zz], by go_num, by omega, HFIN.out, HVS.out, by rw [HZZ.out] at HSET ⊢; exact HSET.out⟩
                  case measure => simp [intOf]; omega
              · have hix : (Instr.index 9 (.string s) (.int .i64 (k : Int))).run Tryd.prog wq = .ok (.int .u8 116) wq := hix wq
                have ce : wq.cell? ⟨g, 4, none⟩ = some (.int .i64 ((setAll op (ls.take k) zs).get 4)) := ce
                have fr : wq.frozen? ⟨g, 4, none⟩ = false := fr
                have hzz : zz = (numO (restR 116 v)).getD 0 := HZ0.out
                obtain ⟨N, hN⟩ : ∃ N, N = v.length := ⟨_, rfl⟩
                rw [← hN] at hTs hltw
                by_cases hv0 : 0 < N
                · have hr : restR 116 v = v.drop 1 := by unfold restR; rw [if_pos ⟨by decide, by omega⟩]
                  have hex : (tx v).extract 1 N = tx (v.drop 1) := by rw [hN]; exact extract_rest v
                  rw [hr] at HNB hzz
                  have hv1 : 1 ≤ N := hv0
                  have hv2 : (0 : Int) < (N : Int) := by omega
                  have hv3 : decide (0 < N) = true := decide_eq_true hv0
                  have hv4 : (1 : Int) ≤ (N : Int) := by omega
                  obtain ⟨T1, hT1⟩ : ∃ T, T = tx (v.drop 1) := ⟨_, rfl⟩
                  obtain ⟨T2, hT2⟩ : ∃ T, T = tx v := ⟨_, rfl⟩
                  obtain ⟨O, hO⟩ : ∃ O, O = numO (v.drop 1) := ⟨_, rfl⟩
                  rw [← hT1] at hex HNB
                  rw [← hT2] at hex hTs hcell
                  rw [← hO] at HNB hzz
                  have HNB := Lib.hid HNB
                  have HZZ := Lib.hid hzz
                  clear hT1 hT2 hO hr hN hv0 HLT hzz
                  go_wp2_with fail
                  refine Calls.mono HNB.out ?_
                  rintro e w4 ⟨rfl, rfl⟩
                  go_wp2_with fail
                  go_roundw
                  case rel => exact ⟨k + 1, zs ++ [zz], by go_num, by omega, HFIN.out, HVS.out, by rw [HZZ.out] at HSET ⊢; exact HSET.out⟩
                  case measure => simp [intOf]; omega
                · have hv0 : N = 0 := by omega
                  subst hv0
                  have hr : restR 116 v = v := by unfold restR; rw [if_neg (by rw [← hN]; rintro ⟨_, h⟩; exact absurd h (by decide))]
                  rw [hr] at HNB hzz
                  obtain ⟨T2, hT2⟩ : ∃ T, T = tx v := ⟨_, rfl⟩
                  obtain ⟨O, hO⟩ : ∃ O, O = numO v := ⟨_, rfl⟩
                  rw [← hT2] at HNB hTs hcell
                  rw [← hO] at HNB hzz
                  have HNB := Lib.hid HNB
                  have HZZ := Lib.hid hzz
                  clear hT2 hO hr hN HLT hzz
                  go_wp2_with fail
                  refine Calls.mono HNB.out ?_
                  rintro e w4 ⟨rfl, rfl⟩
                  go_wp2_with fail
                  go_roundw
                  case rel => exact ⟨k + 1, zs ++ [zz], by go_num, by omega, HFIN.out, HVS.out, by rw [HZZ.out] at HSET ⊢; exact HSET.out⟩
                  case measure => simp [intOf]; omega
              · have hix : (Instr.index 9 (.string s) (.int .i64 (k : Int))).run Tryd.prog wq = .ok (.int .u8 110) wq := hix wq
                have ce : wq.cell? ⟨g, 5, none⟩ = some (.int .i64 ((setAll op (ls.take k) zs).get 5)) := ce
                have fr : wq.frozen? ⟨g, 5, none⟩ = false := fr
                have hzz : zz = (numO (restR 110 v)).getD 0 := HZ0.out
                have hr : restR 110 v = v := by unfold restR; rw [if_neg (by rintro ⟨h, _⟩; exact absurd h (by decide))]
                rw [hr] at HNB hzz
                obtain ⟨T2, hT2⟩ : ∃ T, T = tx v := ⟨_, rfl⟩
                obtain ⟨O, hO⟩ : ∃ O, O = numO v := ⟨_, rfl⟩
                rw [← hT2] at HNB hTs hcell
                rw [← hO] at HNB hzz
                have HNB := Lib.hid HNB
                have HZZ := Lib.hid hzz
                clear hT2 hO hr HLT hzz
                go_wp2_with fail
                refine Calls.mono HNB.out ?_
                rintro e w4 ⟨rfl, rfl⟩
                go_wp2_with fail
                go_roundw
                case rel => exact ⟨k + 1, zs ++ [zz], by go_num, by omega, HFIN.out, HVS.out, by rw [HZZ.out] at HSET ⊢; exact HSET.out⟩
                case measure => simp [intOf]; omega
              · have hix : (Instr.index 9 (.string s) (.int .i64 (k : Int))).run Tryd.prog wq = .ok (.int .u8 107) wq := hix wq
                have ce : wq.cell? ⟨g, 5, none⟩ = some (.int .i64 ((setAll op (ls.take k) zs).get 5)) := ce
                have fr : wq.frozen? ⟨g, 5, none⟩ = false := fr
                have hzz : zz = (numO (restR 107 v)).getD 0 := HZ0.out
                have hr : restR 107 v = v := by unfold restR; rw [if_neg (by rintro ⟨h, _⟩; exact absurd h (by decide))]
                rw [hr] at HNB hzz
                obtain ⟨T2, hT2⟩ : ∃ T, T = tx v := ⟨_, rfl⟩
                obtain ⟨O, hO⟩ : ∃ O, O = numO v := ⟨_, rfl⟩
                rw [← hT2] at HNB hTs hcell
                rw [← hO] at HNB hzz
                have HNB := Lib.hid HNB
                have HZZ := Lib.hid hzz
                clear hT2 hO hr HLT hzz
                go_wp2_with fail
                refine Calls.mono HNB.out ?_
                rintro e w4 ⟨rfl, rfl⟩
                go_wp2_with fail
                go_roundw
                case rel => exact ⟨k + 1, zs ++ [zz], by go_num, by omega, HFIN.out, HVS.out, by rw [HZZ.out] at HSET ⊢; exact HSET.out⟩
                case measure => simp [intOf]; omega
              · have hix : (Instr.index 9 (.string s) (.int .i64 (k : Int))).run Tryd.prog wq = .ok (.int .u8 115) wq := hix wq
                have ce : wq.cell? ⟨g, 1, none⟩ = some (.int .i64 ((setAll op (ls.take k) zs).get 1)) := ce
                have fr : wq.frozen? ⟨g, 1, none⟩ = false := fr
                have hzz : zz = (numO (restR 115 v)).getD 0 := HZ0.out
                have hr : restR 115 v = v := by unfold restR; rw [if_neg (by rintro ⟨h, _⟩; exact absurd h (by decide))]
                rw [hr] at HNB hzz
                obtain ⟨T2, hT2⟩ : ∃ T, T = tx v := ⟨_, rfl⟩
                obtain ⟨O, hO⟩ : ∃ O, O = numO v := ⟨_, rfl⟩
                rw [← hT2] at HNB hTs hcell
                rw [← hO] at HNB hzz
                have HNB := Lib.hid HNB
                have HZZ := Lib.hid hzz
                clear hT2 hO hr HLT hzz
                go_wp2_with fail
                refine Calls.mono HNB.out ?_
                rintro e w4 ⟨rfl, rfl⟩
                go_wp2_with fail
                go_roundw
                case rel => exact ⟨k + 1, zs ++ [zz], by go_num, by omega, HFIN.out, HVS.out, by rw [HZZ.out] at HSET ⊢; exact HSET.out⟩
                case measure => simp [intOf]; omega
              · have hix : (Instr.index 9 (.string s) (.int .i64 (k : Int))).run Tryd.prog wq = .ok (.int .u8 106) wq := hix wq
                have ce : wq.cell? ⟨g, 5, none⟩ = some (.int .i64 ((setAll op (ls.take k) zs).get 5)) := ce
                have fr : wq.frozen? ⟨g, 5, none⟩ = false := fr
                have hzz : zz = signU (restR 106 v) ((numO (restR 106 v)).getD 0) 4 := HZ0.out
                rw [rest_j] at hzz HNB
                have HTQ := Lib.hid (show ∀ q : Nat, ((tx (signL (q : Int))).toList == (tx v).toList) = decide (signL (q : Int) = v) from fun q => by
                  rw [tx_toList, tx_toList]
                  by_cases h : signL (q : Int) = v
                  · rw [h]; simp
                  · rw [decide_eq_false h]; exact beq_eq_false_iff_ne.2 h)
                obtain ⟨T2, hT2⟩ : ∃ T, T = tx v := ⟨_, rfl⟩
                obtain ⟨O, hO⟩ : ∃ O, O = numO v := ⟨_, rfl⟩
                rw [← hT2] at HNB hTs hcell HTQ
                rw [← hO] at HNB hzz
                have HNB := Lib.hid HNB
                have HZZ := Lib.hid hzz
                have HSU := Lib.hid (show ∀ q : Nat, signU v (O.getD 0) (q + 1) = if signL (q : Int) = v then (q : Int) else signU v (O.getD 0) q from fun q => rfl)
                clear hT2 hO HLT hzz
                go_wp2_with fail
                refine Calls.mono HNB.out ?_
                rintro e w4 ⟨rfl, rfl⟩
                go_wp2_with fail
                go_loop [10, 12] (fun n i => ∃ q : Nat, i = .int .i64 (q : Int) ∧ n = .int .i64 (signU v (O.getD 0) q) ∧ q ≤ 4) (fun _ i => 4 - (intOf i).toNat)
                case atStart => exact ⟨0, rfl, rfl, by omega⟩
                case round =>
                  obtain ⟨q, rfl, rfl, hq⟩ := hrel
                  by_cases hq4 : q < 4
                  · have hte := HTQ.out q
                    have hsu := HSU.out q
                    have HSG := sign_any (q : Int) wq
                    obtain ⟨tq, htq⟩ : ∃ t, t = tx (signL (q : Int)) := ⟨_, rfl⟩
                    rw [← htq] at hte HSG
                    have HSG := Lib.hid HSG
                    clear htq
                    by_cases he : signL (q : Int) = v
                    case' pos =>
                      rw [decide_eq_true he] at hte
                      have HSV := Lib.hid (hsu.trans (if_pos he))
                    case' neg =>
                      rw [decide_eq_false he] at hte
                      have HSV := Lib.hid (hsu.trans (if_neg he))
                    all_goals
                      clear he hsu
                      go_wp2_with fail
                      refine Calls.mono HSG.out ?_
                      rintro e w5 ⟨rfl, rfl⟩
                      go_wp2_with fail
                      go_round
                      case rel => exact ⟨q + 1, by go_num, by rw [HSV.out], by omega⟩
                      case measure => simp [intOf]; omega
                  · obtain rfl : q = 4 := by omega
                    rw [← HZZ.out]
                    clear hq4 hq
                    go_wp2_with fail
                    go_roundw
                    case rel => exact ⟨k + 1, zs ++ [zz], by go_num, by omega, HFIN.out, HVS.out, HSET.out⟩
                    case measure => simp [intOf]; omega
            · obtain rfl : k = m := by omega
              obtain ⟨x, hx⟩ : ∃ x, x = setAll op (ls.take k) zs := ⟨_, rfl⟩
              rw [← hx] at HCK
              have hxe : x = setAll op ls zs := by rw [hx, HM.out, List.take_length]
              have hxo : x.Ok := by
                rw [hxe]
                exact setAll_ok (by have := HOK.out; unfold Fits; omega) _ _ HZS.out.2
              have hI := HEND.out HOK.out zs (by rw [HZL.out, HM.out]) (by rw [HMM.out, HM.out]) HZS.out.1
              rw [← hxe] at hI
              have hte := HTE.out x
              have HRL := Lib.hid (fun W => (by have h := refline_any x hxo W; unfold Ins.val at h; exact h : Calls Tryd.prog 36 #[.agg #[.int .i64 x.op, .int .i64 x.a, .int .i64 x.b, .int .i64 x.c, .int .i64 x.t, .int .i64 x.n]] W fun e w' => e = .returned (.string (tx (lineL x))) ∧ Below W.heap.size W w'))
              have HI := Lib.hid (show insOf line = if decide (lineL x = line) then some x else none by rw [hI]; by_cases h : lineL x = line <;> simp [h])
              obtain ⟨b, hb⟩ : ∃ b, b = decide (lineL x = line) := ⟨_, rfl⟩
              obtain ⟨tl, htl⟩ : ∃ t, t = tx (lineL x) := ⟨_, rfl⟩
              rw [← hb] at HI hte
              rw [← htl] at HRL hte
              have HJD := Lib.hid HCK.out.toJ.drew
              have HJS := Lib.hid HJD.out.set
              have hgn : ¬ g = w.heap.size := by have := HJD.out.lo; omega
              have hgn2 : ¬ w.heap.size = g := by omega
              clear hb htl hx hxe hxo hI HZS HZL
              go_wp2_with fail
              obtain ⟨⟨g0, g1, g2, g3, g4, g5⟩, ⟨z0, z1, z2, z3, z4, z5⟩, fz⟩ := HJD.out.cells
              have f0 := fz 0
              have f1 := fz 1
              have f2 := fz 2
              have f3 := fz 3
              have f4 := fz 4
              have f5 := fz 5
              clear fz
              go_region_law (first | (go_simp; go_at_call 36; refine Calls.mono (HRL.out _) ?_; rintro e w5 ⟨rfl, hb5⟩; (first | (have HJ5 := Lib.hid (CJ.later HJD.out hb5)) | (have HJ5 := Lib.hid (CJ.later HJS.out hb5))); obtain ⟨⟨k0, k1, k2, k3, k4, k5⟩, ⟨y0, y1, y2, y3, y4, y5⟩, fy⟩ := HJ5.out.cells; have p0 := fy 0; have p1 := fy 1; have p2 := fy 2; have p3 := fy 3; have p4 := fy 4; have p5 := fy 5; clear fy hb5))
              all_goals
                go_wp2_with fail
                first
                | refine bodyPost_ret (results61 _ w.heap.size x (.bool b) HJ5.out.set.out _ rfl rfl) rfl ⟨x, b, rfl, HI.out, HJ5.out.set.below⟩
                | refine bodyPost_ret (results61 _ w.heap.size x (.bool b) HJ5.out.out _ rfl rfl) rfl ⟨x, b, rfl, HI.out, HJ5.out.below⟩
        · have HI := Lib.hid (HNONE.out (.inr (by rw [← HM.out]; exact hmm)))
          have d1 : (((ws.length : Int) + 1) != 1 + (m : Int)) = true := by rw [bne_iff_ne]; omega
          obtain ⟨x, hx⟩ : ∃ x, x = setAll op (ls.take 0) [] := ⟨_, rfl⟩
          rw [← hx] at HCI
          have hxo : x.op = op := by rw [hx]; rfl
          rw [← hxo] at hneg dn g0 ⊢
          clear hx hxo hmm
          clear g0
          obtain ⟨⟨g0, g1, g2, g3, g4, g5⟩, ⟨z0, z1, z2, z3, z4, z5⟩, fz⟩ := HCI.out.toJ.cells
          have f0 := fz 0
          have f1 := fz 1
          have f2 := fz 2
          have f3 := fz 3
          have f4 := fz 4
          have f5 := fz 5
          have HJ := Lib.hid HCI.out.toJ.set
          clear fz
          go_wp2_with fail
          refine bodyPost_ret (results61 _ w.heap.size x (.bool false) HJ.out.out _ rfl rfl) rfl ⟨x, false, rfl, HI.out, HJ.out.below⟩
end Go.Proofs.YtkeckjgihjpfbaaDoor
