/- YtkeckjgihjpfbaaDoorRefP, YtkeckjgihjpfbaaDoorParsesLaw: put together. -/
import Derived.Test.YtkeckjgihjpfbaaDoorZQ2
import Derived.Test.YtkeckjgihjpfbaaDoorZP5
import Derived.Test.YtkeckjgihjpfbaaDoorZP2
/- Layer 7: the document's Parse. -/
namespace Go.Proofs.YtkeckjgihjpfbaaDoor
set_option maxRecDepth 100000
open Go.RowKit
attribute [local go_sem ↓] Go.wp_at_zero Go.wp_at_succ

def RParseE (R : Nat ⊕ (Int × List Ins)) (w' : World) (e : Ending) : Prop :=
  match R with
  | .inl i => e = .returned (.tuple #[.agg #[.int .i64 0, .slice none 0 0], .int .i64 (i : Int), .bool false])
  | .inr (f, l) => (chk f l = -2 ∧ ∃ A c, e = .returned (.tuple #[.agg #[.int .i64 f, .slice A l.length c], .int .i64 (-2), .bool true]) ∧ Codes w' A l.length l) ∨
      (chk f l ≠ -2 ∧ e = .returned (.tuple #[.agg #[.int .i64 0, .slice none 0 0], .int .i64 (chk f l), .bool true]))
theorem results32 (w : World) (g : Nat) (f : Int) (A : Option Addr) (n c : Nat) (v u : Value) (h : w.heap[g]? = some (.cells #[.int .i64 f, .slice A n c] 24 (0, 0))) (tmps : Array Value) (h2 : tmps.getD 2 undef = .pointer (some ⟨g, 0, none⟩)) (h3 : tmps.getD 3 undef = v) (h4 : tmps.getD 4 undef = u) :
    (results Tryd.f32 tmps).run Tryd.prog w = .ok (.tuple #[.agg #[.int .i64 f, .slice A n c], v, u]) w := by
  have h2' : tmps[2]?.getD undef = .pointer (some ⟨g, 0, none⟩) := by simpa using h2
  have h3' : tmps[3]?.getD undef = v := by simpa using h3
  have h4' : tmps[4]?.getD undef = u := by simpa using h4
  have c0 : w.cell? ⟨g, 0, none⟩ = some (.int .i64 f) := cell_of_row w g 0 _ 24 (0, 0) h
  have c1 : w.cell? ⟨g, 1, none⟩ = some (.slice A n c) := cell_of_row w g 1 _ 24 (0, 0) h
  have e : Tryd.f32.results = #[.cell 2 24, .tmp 3, .tmp 4] := Tryd.results32
  have hl : (loadVar 24 ⟨g, 0, none⟩).run Tryd.prog w = .ok (.agg #[.int .i64 f, .slice A n c]) w := by simp [go_sem, c0, c1]
  simp only [results, e]
  simp [asAddr, h2', hl, h3', h4']
theorem out_now {w wr : World} (hou : wr.heap[w.heap.size]? = some (.cells #[.int .i64 0, .slice none 0 0] 24 (0, 0))) :
    wr.cell? ⟨w.heap.size, 0, none⟩ = some (.int .i64 0) ∧ wr.cell? ⟨w.heap.size, 1, none⟩ = some (.slice none 0 0) ∧ wr.frozen? ⟨w.heap.size, 0, none⟩ = false ∧ wr.frozen? ⟨w.heap.size, 1, none⟩ = false :=
  ⟨cell_of_row _ _ 0 _ 24 (0, 0) hou, cell_of_row _ _ 1 _ 24 (0, 0) hou, by simp [World.frozen?, hou], by simp [World.frozen?, hou]⟩
theorem out_end {w wr : World} (hb : Below w.heap.size w wr) (hou : wr.heap[w.heap.size]? = some (.cells #[.int .i64 0, .slice none 0 0] 24 (0, 0))) :
    (set2 wr w.heap.size 0 (.slice none 0 0)).heap[w.heap.size]? = some (.cells #[.int .i64 0, .slice none 0 0] 24 (0, 0)) ∧ Below w.heap.size w (set2 wr w.heap.size 0 (.slice none 0 0)) :=
  ⟨set2_at hou _ _, set2_below hb _ (Nat.le_refl _) _ _⟩
theorem fuel_cut (t : List UInt8) : fuelOf t = if 5 < t.length ∧ t.take 5 = [102, 117, 101, 108, 32] then numO (t.drop 5) else none := by
  unfold fuelOf
  by_cases h : t.take 5 = [102, 117, 101, 108, 32]
  · rw [if_pos h]
    by_cases h5 : 5 < t.length
    · rw [if_pos ⟨h5, h⟩]
    · rw [if_neg fun q => h5 q.1]
      exact num_len (.inl (by rw [List.length_drop]; omega))
  · rw [if_neg h, if_neg fun q => h q.2]
theorem split_one (t : List UInt8) (h : (10 : UInt8) ∉ t) : splitC 10 t = [t] := by
  have := splitC_of 10 t [] h (fun _ m => by cases m)
  simpa using this
theorem extract_head (t : List UInt8) : (tx t).extract 0 5 = tx (t.take 5) := by
  rw [← tx_of ((tx t).extract 0 5), Lib.extract_from_zero, tx_data]
theorem extract_tail (t : List UInt8) : (tx t).extract 5 t.length = tx (t.drop 5) := by
  rw [← tx_of ((tx t).extract 5 t.length)]
  congr 1
  rw [ByteArray.data_extract, Array.toList_extract, tx_data, List.extract_eq_take_drop, List.take_of_length_le (by rw [List.length_drop]; exact Nat.le_refl _)]
set_option maxHeartbeats 16000000 in
theorem rparse_any (text : List UInt8) (hln : text.length ≤ 100000) (w : World) : Calls Tryd.prog 32 #[.string (tx text)] w fun e w' => RParseE (parseT text) w' e ∧ Below w.heap.size w w' := by
  have HP0 := Lib.hid (startP_facts w)
  obtain ⟨R, hR⟩ : ∃ R, R = parseT text := ⟨_, rfl⟩
  have HR0 := Lib.hid (show parseG 0 0 [] (splitC 10 ([] ++ text.drop 0)) = R by rw [hR, List.nil_append, List.drop_zero]; rfl)
  rw [← hR]
  have hsz := tx_size text
  have HIX := Lib.hid (idx_tx text)
  have HEX := Lib.hid (extract_one text)
  obtain ⟨N, hN⟩ : ∃ N, N = text.length := ⟨_, rfl⟩
  have HN := Lib.hid hN
  have HDR := Lib.hid (show ∀ i (h : i < text.length), text.drop i = text[i] :: text.drop (i + 1) from fun i h => List.drop_eq_getElem_cons h)
  obtain ⟨S, hS⟩ : ∃ S, S = tx text := ⟨_, rfl⟩
  rw [← hS] at hsz HIX HEX ⊢
  rw [← hN] at hsz hln
  clear hR hN hS
  go_enter Tryd.func32, Tryd.ntmps32
  go_upto_region 2 with fail
  change Code.wp _ _ _ _ (startP w)
  obtain ⟨W, hW⟩ : ∃ W, W = startP w := ⟨_, rfl⟩
  rw [← hW] at HP0 ⊢
  clear hW
  go_wp2_with fail
  go_loopw [6, 7, 8] (fun s n j wr => ∃ (i k : Nat) (t : List UInt8) (f : Int) (v : Value) (l : List Ins), s = .string (tx t) ∧ n = .int .i64 (k : Int) ∧ j = .int .i64 (i : Int) ∧ i ≤ N ∧ t.length ≤ i ∧ k ≤ i ∧ l.length ≤ k ∧ (10 : UInt8) ∉ t ∧ parseG k f l (splitC 10 (t ++ text.drop i)) = R ∧ PI w (w.heap.size + 1) wr f v l) (fun _ _ j _ => N - (intOf j).toNat)
  case atStart => exact ⟨0, 0, [], 0, _, [], rfl, rfl, rfl, by omega, by simp, by omega, by simp, by simp, HR0.out, HP0.out⟩
  case round =>
    obtain ⟨i, k, t, f, v, l, rfl, rfl, rfl, hi, htl, hki, hlk, hnt, hpg, hpi⟩ := hrel
    have HPG := Lib.hid hpg
    have HPI := Lib.hid hpi
    have HNT := Lib.hid hnt
    clear hpg hpi hnt HP0 HR0
    by_cases hlt : i < N
    · have hil : i < text.length := by rw [← HN.out]; exact hlt
      have hix := HIX.out i hil
      have hex := HEX.out i hil
      have hdr := HDR.out i hil
      obtain ⟨b, hb⟩ : ∃ b, b = text[i] := ⟨_, rfl⟩
      rw [← hb] at hix hex hdr
      have hix := hix wr
      have hpg := HPG.out
      rw [hdr] at hpg
      clear hb hdr hil HPG
      by_cases h10 : b = 10
      · have d0 : ((b.toNat : Int) != 10) = false := by rw [h10]; rfl
        rw [h10, splitC_app 10 t _ HNT.out] at hpg
        have HPG := Lib.hid hpg
        clear h10 hpg hex
        by_cases h0 : k = 0
        · subst h0
          rw [parseG_first] at HPG
          have hfc := fuel_cut t
          obtain ⟨o0, o1, q0, q1⟩ := out_now HPI.out.out
          have hts := tx_size t
          obtain ⟨L, hL⟩ : ∃ L, L = t.length := ⟨_, rfl⟩
          have hx5 := extract_head t
          have hxt := extract_tail t
          rw [← hL] at hts hfc hxt htl
          by_cases h5 : 5 < L
          · have e5 : decide (5 < L) = true := decide_eq_true h5
            have e6 : (5 : Int) < (L : Int) := by omega
            have e7 : 5 ≤ L := by omega
            have e8 : (5 : Int) ≤ (L : Int) := by omega
            have hte : ((tx (t.take 5)).toList == [102, 117, 101, 108, 32]) = decide (t.take 5 = [102, 117, 101, 108, 32]) := by
              rw [tx_toList]
              by_cases h : t.take 5 = [102, 117, 101, 108, 32]
              · rw [h]; rfl
              · rw [decide_eq_false h]; exact beq_eq_false_iff_ne.2 h
            have HNB := refnumber_any (t.drop 5) (by rw [List.length_drop]; omega) wr
            by_cases hfw : t.take 5 = [102, 117, 101, 108, 32]
            · rw [decide_eq_true hfw] at hte
              rw [if_pos ⟨h5, hfw⟩] at hfc
              rw [hfc] at HPG
              unfold optV at HNB
              obtain ⟨O, hO⟩ : ∃ O, O = numO (t.drop 5) := ⟨_, rfl⟩
              obtain ⟨t5, ht5⟩ : ∃ u, u = tx (t.take 5) := ⟨_, rfl⟩
              obtain ⟨td, htd⟩ : ∃ u, u = tx (t.drop 5) := ⟨_, rfl⟩
              obtain ⟨tt, htt⟩ : ∃ u, u = tx t := ⟨_, rfl⟩
              rw [← hO] at HPG HNB
              rw [← ht5] at hx5 hte
              rw [← htd] at hxt HNB
              rw [← htt] at hx5 hxt hts ⊢
              have HNB := Lib.hid HNB
              clear hO ht5 htd htt hfc hL hfw
              rcases O with _ | z
              · have HRR := Lib.hid (show R = .inl 0 from HPG.out.symm)
                go_wp2_with fail
                refine Calls.mono HNB.out ?_
                rintro e w3 ⟨rfl, rfl⟩
                go_wp2_with fail
                obtain ⟨r1, r2⟩ := out_end HPI.out.below HPI.out.out
                exact bodyPost_ret (results32 _ _ 0 none 0 0 _ _ r1 _ rfl rfl rfl) rfl ⟨by rw [HRR.out]; exact rfl, r2⟩
              · have HPG2 := Lib.hid (show parseG 1 z l (splitC 10 (List.drop (i + 1) text)) = R from HPG.out)
                have g0 : wr.cell? ⟨w.heap.size + 1, 0, none⟩ = some (.int .i64 f) := cell_of_row wr _ 0 _ 24 (0, 0) HPI.out.cur
                have gf : wr.frozen? ⟨w.heap.size + 1, 0, none⟩ = false := by simp [World.frozen?, HPI.out.cur]
                go_wp2_with fail
                refine Calls.mono HNB.out ?_
                rintro e w3 ⟨rfl, rfl⟩
                go_wp2_with fail
                go_roundw
                case rel => exact ⟨i + 1, 1, [], z, v, l, rfl, rfl, by go_num, by omega, by simp, by omega, by omega, by simp, HPG2.out, HPI.out.setF z⟩
                case measure => simp [intOf]; omega
            · rw [decide_eq_false hfw] at hte
              rw [if_neg fun q => hfw q.2] at hfc
              rw [hfc] at HPG
              have HRR := Lib.hid (show R = .inl 0 from HPG.out.symm)
              obtain ⟨t5, ht5⟩ : ∃ u, u = tx (t.take 5) := ⟨_, rfl⟩
              obtain ⟨tt, htt⟩ : ∃ u, u = tx t := ⟨_, rfl⟩
              rw [← ht5] at hx5 hte
              rw [← htt] at hx5 hxt hts ⊢
              clear ht5 htt hfc hL hfw HNB hxt
              go_wp2_with fail
              obtain ⟨r1, r2⟩ := out_end HPI.out.below HPI.out.out
              exact bodyPost_ret (results32 _ _ 0 none 0 0 _ _ r1 _ rfl rfl rfl) rfl ⟨by rw [HRR.out]; exact rfl, r2⟩
          · have e5 : decide (5 < L) = false := decide_eq_false h5
            rw [if_neg fun q => h5 q.1] at hfc
            rw [hfc] at HPG
            have HRR := Lib.hid (show R = .inl 0 from HPG.out.symm)
            obtain ⟨tt, htt⟩ : ∃ u, u = tx t := ⟨_, rfl⟩
            rw [← htt] at hts ⊢
            clear htt hfc hL hx5 hxt
            go_wp2_with fail
            obtain ⟨r1, r2⟩ := out_end HPI.out.below HPI.out.out
            exact bodyPost_ret (results32 _ _ 0 none 0 0 _ _ r1 _ rfl rfl rfl) rfl ⟨by rw [HRR.out]; exact rfl, r2⟩
        · have d1 : ((k : Int) == 0) = false := by rw [beq_eq_false_iff_ne]; omega
          rw [parseG_next k h0] at HPG
          have HCC := Lib.hid (show Calls Tryd.prog 61 #[.string (tx t)] wr fun e w' => CodeE t wr w' e by
            cases hs : splitC 32 t with
            | nil => exact absurd hs (splitC_ne 32 t)
            | cons a rs => exact rcode_op t a rs hs (by omega) wr)
          obtain ⟨tt, htt⟩ : ∃ u, u = tx t := ⟨_, rfl⟩
          rw [← htt] at HCC ⊢
          clear htt
          go_wp2_with fail
          refine Calls.mono HCC.out ?_
          rintro e w2 ⟨x, q, rfl, hio, hb2⟩
          unfold Ins.val
          have hp2 := HPI.out.later hb2
          rw [hio] at HPG
          have hbx := (Below.refl w2.heap.size w2).alloc (Nat.le_refl _) (.cells #[.int .i64 x.op, .int .i64 x.a, .int .i64 x.b, .int .i64 x.c, .int .i64 x.t, .int .i64 x.n] 43)
          have hp3 := hp2.later hbx
          have hnx := heap_alloc_new w2 (.cells #[.int .i64 x.op, .int .i64 x.a, .int .i64 x.b, .int .i64 x.c, .int .i64 x.t, .int .i64 x.n] 43)
          have hs2 := hp2.below.size
          have HP3 := Lib.hid hp3
          have HNX := Lib.hid hnx
          have HS2 := Lib.hid hs2
          clear hio hb2 hp2 hbx hp3 hnx hs2
          cases q with
          | false =>
            have HRR := Lib.hid (show R = .inl k from HPG.out.symm)
            go_upto_region 18 with fail
            change Code.wp _ _ _ _ (w2.alloc (.cells #[.int .i64 x.op, .int .i64 x.a, .int .i64 x.b, .int .i64 x.c, .int .i64 x.t, .int .i64 x.n] 43))
            obtain ⟨W3, hW3⟩ : ∃ W3, W3 = w2.alloc (.cells #[.int .i64 x.op, .int .i64 x.a, .int .i64 x.b, .int .i64 x.c, .int .i64 x.t, .int .i64 x.n] 43) := ⟨_, rfl⟩
            rw [← hW3] at HP3 ⊢
            clear hW3
            obtain ⟨o0, o1, q0, q1⟩ := out_now HP3.out.out
            go_wp2_with fail
            obtain ⟨r1, r2⟩ := out_end HP3.out.below HP3.out.out
            exact bodyPost_ret (results32 _ _ 0 none 0 0 _ _ r1 _ rfl rfl rfl) rfl ⟨by rw [HRR.out]; exact rfl, r2⟩
          | true =>
            have HPG3 := Lib.hid (show parseG (k + 1) f (l ++ [x]) (splitC 10 (List.drop (i + 1) text)) = R from HPG.out)
            obtain ⟨A3, c3, rfl, _, _, _⟩ := rdv_own HP3.out.own
            go_upto_region 18 with fail
            change Code.wp _ _ _ _ (w2.alloc (.cells #[.int .i64 x.op, .int .i64 x.a, .int .i64 x.b, .int .i64 x.c, .int .i64 x.t, .int .i64 x.n] 43))
            obtain ⟨W3, hW3⟩ : ∃ W3, W3 = w2.alloc (.cells #[.int .i64 x.op, .int .i64 x.a, .int .i64 x.b, .int .i64 x.c, .int .i64 x.t, .int .i64 x.n] 43) := ⟨_, rfl⟩
            rw [← hW3] at HP3 HNX ⊢
            clear hW3
            have x0 : W3.cell? ⟨w2.heap.size, 0, none⟩ = some (.int .i64 x.op) := cell_of_row W3 _ 0 _ 43 (0, 0) HNX.out
            have x1 : W3.cell? ⟨w2.heap.size, 1, none⟩ = some (.int .i64 x.a) := cell_of_row W3 _ 1 _ 43 (0, 0) HNX.out
            have x2 : W3.cell? ⟨w2.heap.size, 2, none⟩ = some (.int .i64 x.b) := cell_of_row W3 _ 2 _ 43 (0, 0) HNX.out
            have x3 : W3.cell? ⟨w2.heap.size, 3, none⟩ = some (.int .i64 x.c) := cell_of_row W3 _ 3 _ 43 (0, 0) HNX.out
            have x4 : W3.cell? ⟨w2.heap.size, 4, none⟩ = some (.int .i64 x.t) := cell_of_row W3 _ 4 _ 43 (0, 0) HNX.out
            have x5 : W3.cell? ⟨w2.heap.size, 5, none⟩ = some (.int .i64 x.n) := cell_of_row W3 _ 5 _ 43 (0, 0) HNX.out
            have g1 : W3.cell? ⟨w.heap.size + 1, 1, none⟩ = some (.slice A3 l.length c3) := cell_of_row W3 _ 1 _ 24 (0, 0) HP3.out.cur
            go_wp2_with (at_builtin; refine wpList_append_rowv elemC rfl (.tmp 64) (.tmp 66) rfl w.heap.size (.slice A3 l.length c3) l.length (insV l) rfl (HP3.out.own.alloc _) (some ⟨W3.heap.size, 0, none⟩) 1 1 (insV [x]) rfl (rdv_ins W3 x) (insV_one _) (by intro h; cases h) (by unfold maxLen; omega) (by omega) (by have := HP3.out.below.size; rw [World.size_alloc]; omega) ?_; intro v6 w6 hown6 hg6 hb6; obtain ⟨A6, c6, rfl, _, _, _⟩ := rdv_own hown6; obtain ⟨hq6, hp6⟩ := PI.push HP3.out hown6 hg6; have e1 : w6.cell? ⟨w.heap.size + 1, 1, none⟩ = some (.slice A3 l.length c3) := cell_of_row w6 _ 1 _ 24 (0, 0) hq6; have f1 : w6.frozen? ⟨w.heap.size + 1, 1, none⟩ = false := (by simp [World.frozen?, hq6]); have HP6 := Lib.hid hp6; clear hown6 hg6 hb6 hq6 hp6)
            go_roundw
            case rel => exact ⟨i + 1, k + 1, [], f, _, l ++ [x], rfl, by go_num, by go_num, by omega, by simp, by omega, by rw [List.length_append]; show l.length + 1 ≤ _; omega, by simp, HPG3.out, HP6.out⟩
            case measure => simp [intOf]; omega
      · have d0 : ((b.toNat : Int) != 10) = true := by
          rw [bne_iff_ne]
          intro h
          exact h10 (UInt8.toNat_inj.1 (by have e : (10 : UInt8).toNat = 10 := rfl; omega))
        have HPG := Lib.hid (show parseG k f l (splitC 10 ((t ++ [b]) ++ text.drop (i + 1))) = R by rw [List.append_assoc]; exact hpg)
        have HNT := Lib.hid (show (10 : UInt8) ∉ t ++ [b] from fun m => by
          rcases List.mem_append.1 m with h | h
          · exact HNT.out h
          · exact h10 (List.mem_singleton.1 h).symm)
        have hcat : tx t ++ tx [b] = tx (t ++ [b]) := tx_append _ _
        have hts : (tx t).size ≤ 100000 := by rw [tx_size]; omega
        have HTL := Lib.hid (show (t ++ [b]).length ≤ i + 1 by rw [List.length_append]; show t.length + 1 ≤ _; omega)
        obtain ⟨tt, htt⟩ : ∃ u, u = tx t := ⟨_, rfl⟩
        obtain ⟨tb, htb⟩ : ∃ u, u = tx [b] := ⟨_, rfl⟩
        obtain ⟨tz, htz⟩ : ∃ u, u = tx (t ++ [b]) := ⟨_, rfl⟩
        have hbs : tb.size = 1 := by rw [htb, tx_size]; rfl
        rw [← htt] at hcat hts ⊢
        rw [← htb] at hcat hex
        rw [← htz] at hcat
        have HTZ := Lib.hid htz
        have hty1 : ¬ 9223372036854775807 < tt.size + 1 := by omega
        have hk1 : (i : Int) + 1 ≤ (N : Int) := by omega
        clear htt htb htz h10 hpg
        go_wp2_with fail
        go_roundw
        case rel => exact ⟨i + 1, k, t ++ [b], f, v, l, by rw [HTZ.out], rfl, by go_num, by omega, HTL.out, by omega, hlk, HNT.out, HPG.out, HPI.out⟩
        case measure => simp [intOf]; omega
    · have hiN : i = N := by omega
      have hpg := HPG.out
      rw [List.drop_eq_nil_of_le (by rw [← HN.out]; omega), List.append_nil, split_one t HNT.out] at hpg
      subst hiN
      have hten : (tx t).toList.isEmpty = t.isEmpty := tx_empty t
      obtain ⟨o0, o1, q0, q1⟩ := out_now HPI.out.out
      clear HPG
      by_cases ht : t = []
      · subst ht
        have hte : (tx ([] : List UInt8)).toList.isEmpty = true := hten.trans rfl
        obtain ⟨tt, htt⟩ : ∃ u, u = tx ([] : List UInt8) := ⟨_, rfl⟩
        rw [← htt] at hte ⊢
        clear hten htt
        by_cases h0 : k = 0
        · subst h0
          have HRR := Lib.hid (show R = .inl 0 by rw [← hpg]; rfl)
          clear hpg
          go_wp2_with fail
          obtain ⟨r1, r2⟩ := out_end HPI.out.below HPI.out.out
          exact bodyPost_ret (results32 _ _ 0 none 0 0 _ _ r1 _ rfl rfl rfl) rfl ⟨by rw [HRR.out]; exact rfl, r2⟩
        · have d1 : ((k : Int) == 0) = false := by rw [beq_eq_false_iff_ne]; omega
          have HRR := Lib.hid (show R = .inr (f, l) by rw [← hpg, parseG, if_pos ⟨h0, rfl⟩])
          obtain ⟨A3, c3, rfl, _, _, _⟩ := rdv_own HPI.out.own
          have HCO := Lib.hid (codes_own HPI.out.own rfl)
          have HCK := Lib.hid (refcheck_any f A3 l.length c3 l wr HCO.out (by omega))
          have g0 : wr.cell? ⟨w.heap.size + 1, 0, none⟩ = some (.int .i64 f) := cell_of_row wr _ 0 _ 24 (0, 0) HPI.out.cur
          have g1 : wr.cell? ⟨w.heap.size + 1, 1, none⟩ = some (.slice A3 l.length c3) := cell_of_row wr _ 1 _ 24 (0, 0) HPI.out.cur
          clear hpg
          clear o0 o1 q0 q1
          go_wp2_with fail
          refine Calls.mono HCK.out ?_
          rintro e w2 ⟨rfl, hb2⟩
          have HP2 := Lib.hid (HPI.out.later hb2)
          obtain ⟨o0, o1, q0, q1⟩ := out_now HP2.out.out
          have g2 : w2.cell? ⟨w.heap.size + 1, 0, none⟩ = some (.int .i64 f) := cell_of_row w2 _ 0 _ 24 (0, 0) HP2.out.cur
          have g3 : w2.cell? ⟨w.heap.size + 1, 1, none⟩ = some (.slice A3 l.length c3) := cell_of_row w2 _ 1 _ 24 (0, 0) HP2.out.cur
          clear g0 g1 hb2
          obtain ⟨V, hV⟩ : ∃ V, V = chk f l := ⟨_, rfl⟩
          have HV := Lib.hid hV
          rw [← hV]
          clear hV
          by_cases hc2 : V = -2
          · have hne : (V != -2) = false := by rw [hc2]; rfl
            have HC2 := Lib.hid hc2
            clear hc2
            go_wp2_with fail
            refine bodyPost_ret (results32 _ _ f A3 l.length c3 _ _ (set2_at HP2.out.out f (.slice A3 l.length c3)) _ rfl rfl rfl) rfl ⟨?_, set2_below HP2.out.below _ (Nat.le_refl _) _ _⟩
            rw [HRR.out]
            refine .inl ⟨by rw [← HV.out]; exact HC2.out, A3, c3, rfl, codes_own (own_keep HP2.out.own fun b cs e _ => set2_other _ _ b (fun e2 => HP2.out.not HP2.out.out (e2 ▸ e))) rfl⟩
          · have hne : (V != -2) = true := by rw [bne_iff_ne]; exact hc2
            have HC2 := Lib.hid hc2
            clear hc2
            go_wp2_with fail
            refine bodyPost_ret (results32 _ _ 0 none 0 0 _ _ (set2_at HP2.out.out 0 (.slice none 0 0)) _ rfl rfl rfl) rfl ⟨?_, set2_below HP2.out.below _ (Nat.le_refl _) _ _⟩
            rw [HRR.out]
            exact .inr ⟨by rw [← HV.out]; exact HC2.out, by rw [HV.out]; exact rfl⟩
      · have hte : (tx t).toList.isEmpty = false := by
          rw [hten]
          cases t with
          | nil => exact absurd rfl ht
          | cons => rfl
        have HRR := Lib.hid (show R = .inl k by rw [← hpg, parseG, if_neg (fun h => ht h.2)])
        obtain ⟨tt, htt⟩ : ∃ u, u = tx t := ⟨_, rfl⟩
        rw [← htt] at hte ⊢
        clear hten htt hpg
        go_wp2_with fail
        obtain ⟨r1, r2⟩ := out_end HPI.out.below HPI.out.out
        exact bodyPost_ret (results32 _ _ 0 none 0 0 _ _ r1 _ rfl rfl rfl) rfl ⟨by rw [HRR.out]; exact rfl, r2⟩
end Go.Proofs.YtkeckjgihjpfbaaDoor

/- Layer 7: which texts are a program's, and whose: the law's call. -/
namespace Go.Proofs.YtkeckjgihjpfbaaDoor
set_option maxRecDepth 100000
open Go.RowKit
attribute [local go_sem ↓] Go.wp_at_zero Go.wp_at_succ

set_option maxHeartbeats 1000000 in
theorem num_form (b : Nat) (v : Int) (w : World) (hf : FormAt w b v) : Calls Tryd.prog 42 #[.iface 72 (.pointer (some ⟨b, 0, none⟩))] w fun e w' => e = .returned (.int .i64 2) ∧ w = w' := by
  have h1 := as36
  have h2 := as72n
  have h3 := as72
  have h4 : ((2 : Int) != 0) = true := rfl
  have c1 : w.cell? ⟨b, 1, none⟩ = some (.iface 36 (.int .i64 2)) := cell_of_row w b 1 _ 75 (0, 0) hf
  clear hf
  go_enter Tryd.func42, Tryd.ntmps42
  go_wp2
  refine wp_loop_rounds 2 ?_
  rw [rounds_succ]
  go_wp2
  rw [rounds_succ]
  go_wp2
  go_ret
  exact ⟨rfl, rfl⟩
set_option maxHeartbeats 400000 in
theorem is_form (b : Nat) (v : Int) (w : World) (hf : FormAt w b v) : Calls Tryd.prog 17 #[.iface 72 (.pointer (some ⟨b, 0, none⟩)), .int .i64 2] w fun e w' => e = .returned (.bool true) ∧ w = w' := by
  have HC := Lib.hid (num_form b v w hf)
  clear hf
  go_enter Tryd.func17, Tryd.ntmps17
  go_wp2_with fail
  refine Calls.mono HC.out ?_
  rintro e w' ⟨rfl, rfl⟩
  go_wp2_with fail
  go_ret
  exact ⟨rfl, rfl⟩
set_option maxHeartbeats 1000000 in
theorem at_form (b : Nat) (v : Int) (w : World) (hf : FormAt w b v) : Calls Tryd.prog 18 #[.iface 72 (.pointer (some ⟨b, 0, none⟩))] w fun e w' => e = .returned (.int .i64 v) ∧ w = w' := by
  have h3 := as72
  have c0 : w.cell? ⟨b, 0, none⟩ = some (.int .i64 v) := cell_of_row w b 0 _ 75 (0, 0) hf
  clear hf
  go_enter Tryd.func18, Tryd.ntmps18
  go_wp2_with fail
  go_ret
  exact ⟨rfl, rfl⟩
theorem splitC_inj {c : UInt8} {a b : List UInt8} (h : splitC c a = splitC c b) : a = b := by
  obtain ⟨x, xs, h1, h2, _, _⟩ := splitC_join c a
  obtain ⟨y, ys, h3, h4, _, _⟩ := splitC_join c b
  rw [h1, h3] at h
  simp only [List.cons.injEq] at h
  rw [h2, h4, h.1, h.2]
theorem parseG_back (f0 : Int) : ∀ (rows : List (List UInt8)) (k : Nat) (acc : List Ins) (f : Int) (l : List Ins), k ≠ 0 → parseG k f0 acc rows = .inr (f, l) → f = f0 ∧ ∃ l2 : List Ins, rows = l2.map lineL ++ [[]] ∧ l = acc ++ l2 ∧ ∀ x ∈ l2, x.Ok
  | [], k, acc, f, l, hk, h => by rw [parseG] at h; cases h
  | [t], k, acc, f, l, hk, h => by
    rw [parseG] at h
    by_cases h0 : k ≠ 0 ∧ t = []
    · rw [if_pos h0] at h
      injection h with h
      injection h with h1 h2
      exact ⟨h1.symm, [], by rw [h0.2]; rfl, by rw [List.append_nil]; exact h2.symm, fun x hx => by cases hx⟩
    · rw [if_neg h0] at h; cases h
  | r :: r2 :: rs, k, acc, f, l, hk, h => by
    rw [parseG, if_neg hk] at h
    cases hi : insOf r with
    | none => rw [hi] at h; cases h
    | some x =>
      rw [hi] at h
      obtain ⟨h1, l2, h2, h3, h4⟩ := parseG_back f0 (r2 :: rs) (k + 1) (acc ++ [x]) f l (by omega) h
      obtain ⟨⟨_, h5⟩, h6⟩ := insOf_known hi
      refine ⟨h1, x :: l2, by rw [List.map_cons, h6, h2]; rfl, by rw [h3, List.append_assoc]; rfl, fun y hy => ?_⟩
      rcases List.mem_cons.1 hy with rfl | hy
      · exact h5
      · exact h4 y hy
theorem parse_back {text : List UInt8} {f : Int} {l : List Ins} (h : parseT text = .inr (f, l)) : printLs f l = text ∧ Fits f ∧ (∀ x ∈ l, x.Ok) ∧ l.length ≤ text.length := by
  have hsp : splitC 10 text = linesOf f l ++ [[]] ∧ Fits f ∧ ∀ x ∈ l, x.Ok := by
    unfold parseT at h
    match hs : splitC 10 text, h with
    | [], h => rw [parseG] at h; cases h
    | [t], h => rw [parseG, if_neg (fun q => q.1 rfl)] at h; cases h
    | r :: r2 :: rs, h =>
      rw [parseG, if_pos rfl] at h
      cases hf : fuelOf r with
      | none => rw [hf] at h; cases h
      | some z =>
        rw [hf] at h
        obtain ⟨h1, l2, h2, h3, h4⟩ := parseG_back z (r2 :: rs) 1 [] f l (by decide) h
        subst h1
        rw [List.nil_append] at h3
        subst h3
        unfold fuelOf at hf
        by_cases h5 : r.take 5 = [102, 117, 101, 108, 32]
        · rw [if_pos h5] at hf
          obtain ⟨h6, h7⟩ := (numO_iff _ _).1 hf
          refine ⟨?_, h6, h4⟩
          unfold linesOf
          rw [List.cons_append, ← h2, h7, ← h5, List.take_append_drop]
        · rw [if_neg h5] at hf; cases hf
  obtain ⟨h1, h2, h3⟩ := hsp
  refine ⟨splitC_inj (c := 10) ?_, h2, h3, ?_⟩
  · rw [h1, print_lines, terms_split 10 _ (lines_mem f l)]
  · have h4 := (splitC_len 10 text).1
    rw [h1, List.length_append] at h4
    unfold linesOf at h4
    rw [List.length_cons, List.length_map] at h4
    simp at h4
    omega
set_option maxHeartbeats 16000000 in
theorem parses_law (text : List UInt8) (w : World) (hA : AU w) (hbig : text.length ≤ 9223372036854775807) : Calls Tryd.prog 8 #[.string (tx text)] w fun e w' => e = .returned (.bool true) ∧ Below w.heap.size w w' := by
  have HAL := Lib.hid (asm_alive w hA.at_)
  have HA := Lib.hid hA
  have hts := tx_size text
  obtain ⟨L, hL⟩ : ∃ L, L = text.length := ⟨_, rfl⟩
  rw [← hL] at hts hbig
  by_cases hlen : 2000 < L
  · have d1 : decide ((2000 : Int) < (L : Int)) = true := decide_eq_true (by omega)
    have d2 : decide (2000 < L) = true := decide_eq_true hlen
    obtain ⟨T, hT⟩ : ∃ T, T = tx text := ⟨_, rfl⟩
    rw [← hT] at hts ⊢
    clear hA hL hT
    go_enter Tryd.func8, Tryd.ntmps8
    go_wp2_with fail
    refine Calls.mono HAL.out ?_
    rintro e w1 ⟨rfl, hb1⟩
    have HB1 := Lib.hid hb1
    clear hb1
    go_wp2_with fail
    go_ret
    exact ⟨rfl, HB1.out⟩
  have d1 : decide ((2000 : Int) < (L : Int)) = false := decide_eq_false (by omega)
  have d2 : decide (2000 < L) = false := decide_eq_false hlen
  have hlt : text.length ≤ 100000 := by omega
  have hpa := fun (W : World) (h : AU W) => parse_any text hlt W h
  have hrp := fun (W : World) => rparse_any text hlt W
  have hself : ((tx text).toList == (tx text).toList) = true := by simp
  have hback := fun (f : Int) (l : List Ins) => parse_back (text := text) (f := f) (l := l)
  obtain ⟨R, hR⟩ : ∃ R, R = parseT text := ⟨_, rfl⟩
  rw [← hR] at hpa hrp hback
  have HTX := Lib.hid (show ∀ a : List UInt8, a = text → tx a = tx text from fun a h => by rw [h])
  obtain ⟨T, hT⟩ : ∃ T, T = tx text := ⟨_, rfl⟩
  rw [← hT] at hts hpa hrp hself HTX ⊢
  clear hA hL hR hT
  match R, hpa, hrp, hback with
  | .inl i, hpa, hrp, hback =>
    have HPA := Lib.hid (show ∀ (W : World), AU W → Calls Tryd.prog 30 #[.string T] W fun e w' => (∃ b, e = .returned (.tuple #[.agg #[.int .i64 0, .slice none 0 0], .iface 72 (.pointer (some ⟨b, 0, none⟩))]) ∧ W.heap.size ≤ b ∧ FormAt w' b (i : Int)) ∧ Below W.heap.size W w' from hpa)
    have HRP := Lib.hid (show ∀ (W : World), Calls Tryd.prog 32 #[.string T] W fun e w' => e = .returned (.tuple #[.agg #[.int .i64 0, .slice none 0 0], .int .i64 (i : Int), .bool false]) ∧ Below W.heap.size W w' from hrp)
    clear hpa hrp hback hlt hlen
    go_enter Tryd.func8, Tryd.ntmps8
    go_wp2_with fail
    refine Calls.mono HAL.out ?_
    rintro e w1 ⟨rfl, hb1⟩
    have HB1 := Lib.hid hb1
    clear hb1
    have HPA1 := Lib.hid (HPA.out w1 (HA.out.ext HB1.out))
    go_wp2_with fail
    refine Calls.mono HPA1.out ?_
    rintro e w2 ⟨⟨b, rfl, _, hfa⟩, hb2⟩
    have HFA2 := Lib.hid hfa
    have HC2 := Lib.hid (show Codes w2 none 0 [] from ⟨rfl, rfl, fun h => absurd h (by decide)⟩)
    clear hfa
    have HB2 := Lib.hid (HB1.out.trans (hb2.mono HB1.out.size))
    have hb3 := (Below.refl w2.heap.size w2).alloc (Nat.le_refl _) (.cells #[.int .i64 0, .slice none 0 0] 24)
    have HB3 := Lib.hid (HB2.out.trans (hb3.mono HB2.out.size))
    have HX3 := Lib.hid (one_new w2 (.cells #[.int .i64 0, .slice none 0 0] 24))
    have HC3 := Lib.hid (HC2.out.ext (stays_b hb3))
    have HFA3 := Lib.hid (box_later HFA2.out hb3)
    clear hb2 hb3
    go_upto_region 6 with fail
    obtain ⟨W3, hW3⟩ : ∃ W3, W3 = w2.alloc (.cells #[.int .i64 0, .slice none 0 0] 24) := ⟨_, rfl⟩
    rw [← hW3] at HB3 HX3 HC3 HFA3 ⊢
    clear hW3
    have HRP3 := Lib.hid (HRP.out W3)
    go_wp2_with fail
    refine Calls.mono HRP3.out ?_
    rintro e w4 ⟨rfl, hb4⟩
    have HB4 := Lib.hid (HB3.out.trans (hb4.mono HB3.out.size))
    have HX4 := Lib.hid (box_later HX3.out hb4)
    have HC4 := Lib.hid (HC3.out.ext (stays_b hb4))
    have HFA4 := Lib.hid (box_later HFA3.out hb4)
    have hc4 : Codes w4 none 0 [] := ⟨rfl, rfl, fun h => absurd h (by decide)⟩
    have hb5 := (Below.refl w4.heap.size w4).alloc (Nat.le_refl _) (.cells #[.int .i64 0, .slice none 0 0] 24)
    have HB5 := Lib.hid (HB4.out.trans (hb5.mono HB4.out.size))
    have HX5 := Lib.hid (box_later HX4.out hb5)
    have HY5 := Lib.hid (one_new w4 (.cells #[.int .i64 0, .slice none 0 0] 24))
    have HC5 := Lib.hid (HC4.out.ext (stays_b hb5))
    have HD5 := Lib.hid (hc4.ext (stays_b hb5))
    have HFA5 := Lib.hid (box_later HFA4.out hb5)
    clear hb4 hb5 hc4
    go_upto_region 7 with fail
    obtain ⟨W5, hW5⟩ : ∃ W5, W5 = w4.alloc (.cells #[.int .i64 0, .slice none 0 0] 24) := ⟨_, rfl⟩
    rw [← hW5] at HB5 HX5 HY5 HC5 HD5 HFA5 ⊢
    clear hW5
    have x0 : W5.cell? ⟨w2.heap.size, 0, none⟩ = some (.int .i64 0) := cell_of_row W5 _ 0 _ 24 (0, 0) HX5.out
    have x1 : W5.cell? ⟨w2.heap.size, 1, none⟩ = some (.slice none 0 0) := cell_of_row W5 _ 1 _ 24 (0, 0) HX5.out
    have y0 : W5.cell? ⟨w4.heap.size, 0, none⟩ = some (.int .i64 0) := cell_of_row W5 _ 0 _ 24 (0, 0) HY5.out
    have y1 : W5.cell? ⟨w4.heap.size, 1, none⟩ = some (.slice none 0 0) := cell_of_row W5 _ 1 _ 24 (0, 0) HY5.out
    have HPG := Lib.hid (by have h := programs_any 0 0 none none 0 0 0 0 ([] : List Ins) ([] : List Ins) W5 HC5.out HD5.out (by omega) (by omega); rw [sameP_self'] at h; exact h : Calls Tryd.prog 15 #[.agg #[.int .i64 0, .slice none 0 0], .agg #[.int .i64 0, .slice none 0 0]] W5 fun e w' => e = .returned (.bool true) ∧ Below W5.heap.size W5 w')
    go_wp2_with fail
    refine Calls.mono HPG.out ?_
    rintro e w6 ⟨rfl, hb6⟩
    have HB6 := Lib.hid (HB5.out.trans (hb6.mono HB5.out.size))
    have HIS := Lib.hid (is_form b _ w6 (box_later HFA5.out hb6))
    have HAT := Lib.hid (at_form b _ w6 (box_later HFA5.out hb6))
    clear x0 x1 y0 y1 hb6
    go_wp2_with fail
    refine Calls.mono HIS.out ?_
    rintro e w7 ⟨rfl, rfl⟩
    go_wp2_with fail
    refine Calls.mono HAT.out ?_
    rintro e w8 ⟨rfl, rfl⟩
    go_wp2_with fail
    go_ret
    exact ⟨ret_bool' (by simp), HB6.out⟩
  | .inr (f, l), hpa, hrp, hback =>
    obtain ⟨hpl, hff, hok, hll⟩ := hback f l rfl
    have HF := Lib.hid hff
    have HOK := Lib.hid hok
    have HLN := Lib.hid (show l.length ≤ 9223372036854775807 by omega)
    have HPL := Lib.hid (HTX.out _ hpl)
    by_cases hck : chk f l = -2
    · have HCK := Lib.hid hck
      have HPA := Lib.hid (show ∀ (W : World), AU W → Calls Tryd.prog 30 #[.string T] W fun e w' => (∃ A c, e = .returned (.tuple #[.agg #[.int .i64 f, .slice A l.length c], .nilIface]) ∧ Codes w' A l.length l) ∧ Below W.heap.size W w' from fun W h => (hpa W h).mono fun e w' q => ⟨by
        rcases q.1 with h | h
        · exact h.2
        · exact absurd hck h.1, q.2⟩)
      have HRP := Lib.hid (show ∀ (W : World), Calls Tryd.prog 32 #[.string T] W fun e w' => (∃ A c, e = .returned (.tuple #[.agg #[.int .i64 f, .slice A l.length c], .int .i64 (-2), .bool true]) ∧ Codes w' A l.length l) ∧ Below W.heap.size W w' from fun W => (hrp W).mono fun e w' q => ⟨by
        rcases q.1 with h | h
        · exact h.2
        · exact absurd hck h.1, q.2⟩)
      clear hck hll
      clear hpa hrp hback hlt hlen
      go_enter Tryd.func8, Tryd.ntmps8
      go_wp2_with fail
      refine Calls.mono HAL.out ?_
      rintro e w1 ⟨rfl, hb1⟩
      have HB1 := Lib.hid hb1
      clear hb1
      have HPA1 := Lib.hid (HPA.out w1 (HA.out.ext HB1.out))
      go_wp2_with fail
      refine Calls.mono HPA1.out ?_
      rintro e w2 ⟨⟨A2, c2, rfl, hc2⟩, hb2⟩
      have HC2 := Lib.hid hc2
      clear hc2
      have HB2 := Lib.hid (HB1.out.trans (hb2.mono HB1.out.size))
      have hb3 := (Below.refl w2.heap.size w2).alloc (Nat.le_refl _) (.cells #[.int .i64 f, .slice A2 l.length c2] 24)
      have HB3 := Lib.hid (HB2.out.trans (hb3.mono HB2.out.size))
      have HX3 := Lib.hid (one_new w2 (.cells #[.int .i64 f, .slice A2 l.length c2] 24))
      have HC3 := Lib.hid (HC2.out.ext (stays_b hb3))
      clear hb2 hb3
      go_upto_region 6 with fail
      obtain ⟨W3, hW3⟩ : ∃ W3, W3 = w2.alloc (.cells #[.int .i64 f, .slice A2 l.length c2] 24) := ⟨_, rfl⟩
      rw [← hW3] at HB3 HX3 HC3 ⊢
      clear hW3
      have HRP3 := Lib.hid (HRP.out W3)
      go_wp2_with fail
      refine Calls.mono HRP3.out ?_
      rintro e w4 ⟨⟨A4, c4, rfl, hc4⟩, hb4⟩
      have HB4 := Lib.hid (HB3.out.trans (hb4.mono HB3.out.size))
      have HX4 := Lib.hid (box_later HX3.out hb4)
      have HC4 := Lib.hid (HC3.out.ext (stays_b hb4))
      have hb5 := (Below.refl w4.heap.size w4).alloc (Nat.le_refl _) (.cells #[.int .i64 f, .slice A4 l.length c4] 24)
      have HB5 := Lib.hid (HB4.out.trans (hb5.mono HB4.out.size))
      have HX5 := Lib.hid (box_later HX4.out hb5)
      have HY5 := Lib.hid (one_new w4 (.cells #[.int .i64 f, .slice A4 l.length c4] 24))
      have HC5 := Lib.hid (HC4.out.ext (stays_b hb5))
      have HD5 := Lib.hid (hc4.ext (stays_b hb5))
      clear hb4 hb5 hc4
      go_upto_region 7 with fail
      obtain ⟨W5, hW5⟩ : ∃ W5, W5 = w4.alloc (.cells #[.int .i64 f, .slice A4 l.length c4] 24) := ⟨_, rfl⟩
      rw [← hW5] at HB5 HX5 HY5 HC5 HD5 ⊢
      clear hW5
      have x0 : W5.cell? ⟨w2.heap.size, 0, none⟩ = some (.int .i64 f) := cell_of_row W5 _ 0 _ 24 (0, 0) HX5.out
      have x1 : W5.cell? ⟨w2.heap.size, 1, none⟩ = some (.slice A2 l.length c2) := cell_of_row W5 _ 1 _ 24 (0, 0) HX5.out
      have y0 : W5.cell? ⟨w4.heap.size, 0, none⟩ = some (.int .i64 f) := cell_of_row W5 _ 0 _ 24 (0, 0) HY5.out
      have y1 : W5.cell? ⟨w4.heap.size, 1, none⟩ = some (.slice A4 l.length c4) := cell_of_row W5 _ 1 _ 24 (0, 0) HY5.out
      have HPG := Lib.hid (by have h := programs_any f f A2 A4 l.length l.length c2 c4 l l W5 HC5.out HD5.out HLN.out HLN.out; rw [sameP_self'] at h; exact h : Calls Tryd.prog 15 #[.agg #[.int .i64 f, .slice A2 l.length c2], .agg #[.int .i64 f, .slice A4 l.length c4]] W5 fun e w' => e = .returned (.bool true) ∧ Below W5.heap.size W5 w')
      go_wp2_with fail
      refine Calls.mono HPG.out ?_
      rintro e w6 ⟨rfl, hb6⟩
      have HB6 := Lib.hid (HB5.out.trans (hb6.mono HB5.out.size))
      have HX6 := Lib.hid (box_later HX5.out hb6)
      have HC6 := Lib.hid (HC5.out.ext (stays_b hb6))
      clear x0 x1 y0 y1 hb6
      have x0 : w6.cell? ⟨w2.heap.size, 0, none⟩ = some (.int .i64 f) := cell_of_row w6 _ 0 _ 24 (0, 0) HX6.out
      have x1 : w6.cell? ⟨w2.heap.size, 1, none⟩ = some (.slice A2 l.length c2) := cell_of_row w6 _ 1 _ 24 (0, 0) HX6.out
      have HPR := Lib.hid (print_any f HF.out A2 l.length c2 l w6 (HA.out.ext HB6.out).at_ HC6.out HLN.out HOK.out)
      go_wp2_with fail
      refine Calls.mono HPR.out ?_
      rintro e w7 ⟨he7, hb7⟩
      have HB6 := Lib.hid (HB6.out.trans (hb7.mono HB6.out.size))
      clear x0 x1 hb7
      rcases he7 with ⟨_, rfl⟩ | ⟨hne, _⟩
      · rw [HPL.out]
        go_wp2_with fail
        go_ret
        exact ⟨ret_bool' (by simp), HB6.out⟩
      · exact absurd HCK.out hne
    · have HPA := Lib.hid (show ∀ (W : World), AU W → Calls Tryd.prog 30 #[.string T] W fun e w' => (∃ b, e = .returned (.tuple #[.agg #[.int .i64 0, .slice none 0 0], .iface 72 (.pointer (some ⟨b, 0, none⟩))]) ∧ W.heap.size ≤ b ∧ FaultAt w' b (chk f l)) ∧ Below W.heap.size W w' from fun W h => (hpa W h).mono fun e w' q => ⟨by
        rcases q.1 with h | h
        · exact absurd h.1 hck
        · exact h.2, q.2⟩)
      have HRP := Lib.hid (show ∀ (W : World), Calls Tryd.prog 32 #[.string T] W fun e w' => e = .returned (.tuple #[.agg #[.int .i64 0, .slice none 0 0], .int .i64 (chk f l), .bool true]) ∧ Below W.heap.size W w' from fun W => (hrp W).mono fun e w' q => ⟨by
        rcases q.1 with h | h
        · exact absurd h.1 hck
        · exact h.2, q.2⟩)
      obtain ⟨V, hV⟩ : ∃ V, V = chk f l := ⟨_, rfl⟩
      rw [← hV] at HPA HRP hck
      have hne : (V != -2) = true := by rw [bne_iff_ne]; exact hck
      clear hV hck hll
      clear hpa hrp hback hlt hlen
      go_enter Tryd.func8, Tryd.ntmps8
      go_wp2_with fail
      refine Calls.mono HAL.out ?_
      rintro e w1 ⟨rfl, hb1⟩
      have HB1 := Lib.hid hb1
      clear hb1
      have HPA1 := Lib.hid (HPA.out w1 (HA.out.ext HB1.out))
      go_wp2_with fail
      refine Calls.mono HPA1.out ?_
      rintro e w2 ⟨⟨b, rfl, _, hfa⟩, hb2⟩
      have HFA2 := Lib.hid hfa
      have HC2 := Lib.hid (show Codes w2 none 0 [] from ⟨rfl, rfl, fun h => absurd h (by decide)⟩)
      clear hfa
      have HB2 := Lib.hid (HB1.out.trans (hb2.mono HB1.out.size))
      have hb3 := (Below.refl w2.heap.size w2).alloc (Nat.le_refl _) (.cells #[.int .i64 0, .slice none 0 0] 24)
      have HB3 := Lib.hid (HB2.out.trans (hb3.mono HB2.out.size))
      have HX3 := Lib.hid (one_new w2 (.cells #[.int .i64 0, .slice none 0 0] 24))
      have HC3 := Lib.hid (HC2.out.ext (stays_b hb3))
      have HFA3 := Lib.hid (box_later HFA2.out hb3)
      clear hb2 hb3
      go_upto_region 6 with fail
      obtain ⟨W3, hW3⟩ : ∃ W3, W3 = w2.alloc (.cells #[.int .i64 0, .slice none 0 0] 24) := ⟨_, rfl⟩
      rw [← hW3] at HB3 HX3 HC3 HFA3 ⊢
      clear hW3
      have HRP3 := Lib.hid (HRP.out W3)
      go_wp2_with fail
      refine Calls.mono HRP3.out ?_
      rintro e w4 ⟨rfl, hb4⟩
      have HB4 := Lib.hid (HB3.out.trans (hb4.mono HB3.out.size))
      have HX4 := Lib.hid (box_later HX3.out hb4)
      have HC4 := Lib.hid (HC3.out.ext (stays_b hb4))
      have HFA4 := Lib.hid (box_later HFA3.out hb4)
      have hc4 : Codes w4 none 0 [] := ⟨rfl, rfl, fun h => absurd h (by decide)⟩
      have hb5 := (Below.refl w4.heap.size w4).alloc (Nat.le_refl _) (.cells #[.int .i64 0, .slice none 0 0] 24)
      have HB5 := Lib.hid (HB4.out.trans (hb5.mono HB4.out.size))
      have HX5 := Lib.hid (box_later HX4.out hb5)
      have HY5 := Lib.hid (one_new w4 (.cells #[.int .i64 0, .slice none 0 0] 24))
      have HC5 := Lib.hid (HC4.out.ext (stays_b hb5))
      have HD5 := Lib.hid (hc4.ext (stays_b hb5))
      have HFA5 := Lib.hid (box_later HFA4.out hb5)
      clear hb4 hb5 hc4
      go_upto_region 7 with fail
      obtain ⟨W5, hW5⟩ : ∃ W5, W5 = w4.alloc (.cells #[.int .i64 0, .slice none 0 0] 24) := ⟨_, rfl⟩
      rw [← hW5] at HB5 HX5 HY5 HC5 HD5 HFA5 ⊢
      clear hW5
      have x0 : W5.cell? ⟨w2.heap.size, 0, none⟩ = some (.int .i64 0) := cell_of_row W5 _ 0 _ 24 (0, 0) HX5.out
      have x1 : W5.cell? ⟨w2.heap.size, 1, none⟩ = some (.slice none 0 0) := cell_of_row W5 _ 1 _ 24 (0, 0) HX5.out
      have y0 : W5.cell? ⟨w4.heap.size, 0, none⟩ = some (.int .i64 0) := cell_of_row W5 _ 0 _ 24 (0, 0) HY5.out
      have y1 : W5.cell? ⟨w4.heap.size, 1, none⟩ = some (.slice none 0 0) := cell_of_row W5 _ 1 _ 24 (0, 0) HY5.out
      have HPG := Lib.hid (by have h := programs_any 0 0 none none 0 0 0 0 ([] : List Ins) ([] : List Ins) W5 HC5.out HD5.out (by omega) (by omega); rw [sameP_self'] at h; exact h : Calls Tryd.prog 15 #[.agg #[.int .i64 0, .slice none 0 0], .agg #[.int .i64 0, .slice none 0 0]] W5 fun e w' => e = .returned (.bool true) ∧ Below W5.heap.size W5 w')
      go_wp2_with fail
      refine Calls.mono HPG.out ?_
      rintro e w6 ⟨rfl, hb6⟩
      have HB6 := Lib.hid (HB5.out.trans (hb6.mono HB5.out.size))
      have HIS := Lib.hid (is_fault b _ w6 (box_later HFA5.out hb6))
      have HAT := Lib.hid (at_fault b _ w6 (box_later HFA5.out hb6))
      clear x0 x1 y0 y1 hb6
      go_wp2_with fail
      refine Calls.mono HIS.out ?_
      rintro e w7 ⟨rfl, rfl⟩
      go_wp2_with fail
      refine Calls.mono HAT.out ?_
      rintro e w8 ⟨rfl, rfl⟩
      go_wp2_with fail
      go_ret
      exact ⟨ret_bool' (by simp), HB6.out⟩
theorem parses_str (s : ByteArray) (w : World) (hA : AU w) (hs : s.size ≤ maxLen) : Calls Tryd.prog 8 #[.string s] w fun e w' => e = .returned (.bool true) ∧ Below w.heap.size w w' := by
  have h := parses_law s.data.toList w hA (by rw [Array.length_toList]; exact Nat.le_trans hs (by unfold maxLen; omega))
  rw [tx_of] at h
  exact h
end Go.Proofs.YtkeckjgihjpfbaaDoor
