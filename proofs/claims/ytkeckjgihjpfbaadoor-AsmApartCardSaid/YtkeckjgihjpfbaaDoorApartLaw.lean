/- AsmApart answers true of whatever programs: the walk. -/
import Derived.Test.YtkeckjgihjpfbaaDoorAsmM
import Derived.Test.YtkeckjgihjpfbaaDoorAsm7
import Derived.Test.YtkeckjgihjpfbaaDoorCutsLaw
namespace Go.Proofs.YtkeckjgihjpfbaaDoor
set_option maxRecDepth 100000
open Go.RowKit
attribute [local go_sem ↓] Go.wp_at_zero Go.wp_at_succ

theorem idx_tx (l : List UInt8) (k : Nat) (hk : k < l.length) (w : World) : (Instr.index 9 (.string (tx l)) (.int .i64 (k : Int))).run Tryd.prog w = .ok (.int .u8 (((l[k]).toNat : Nat) : Int)) w := by
  have h := idx_str (l.map UInt8.toNat) (fun x hx => by obtain ⟨b, _, rfl⟩ := List.mem_map.1 hx; exact b.toNat_lt) k (by simpa using hk) w
  rw [strN_tx, List.map_map] at h
  have e : l.map (UInt8.ofNat ∘ UInt8.toNat) = l := by
    conv => rhs; rw [← List.map_id l]
    exact List.map_congr_left fun b _ => by simp
  rw [e, List.getElem_map] at h
  exact h
theorem same_texts {f g : Int} {l m : List Ins} (h1 : chk f l = -2) (h2 : chk g m = -2) : ((tx (printLs f l)).toList == (tx (printLs g m)).toList) = sameP f g l m := by
  rw [tx_toList, tx_toList]
  by_cases h : printLs f l = printLs g m
  · obtain ⟨rfl, rfl⟩ := print_inj h1 h2 h
    simp [sameP]
  · rw [beq_eq_false_iff_ne.2 h]
    cases hs : sameP f g l m with
    | false => rfl
    | true =>
      simp only [sameP, Bool.and_eq_true, decide_eq_true_iff] at hs
      obtain ⟨rfl, rfl⟩ := hs
      exact absurd rfl h
set_option maxHeartbeats 16000000 in
theorem apart_law (f g : Int) (hf : Fits f) (hg : Fits g) (A A' : Option Addr) (n n' c c' : Nat) (l m : List Ins) (w : World) (hT : AT w) (h1 : Codes w A n l) (h2 : Codes w A' n' m) (hn : n ≤ 9223372036854775807) (hn' : n' ≤ 9223372036854775807) (hok : ∀ x ∈ l, Ins.Ok x) (hok' : ∀ x ∈ m, Ins.Ok x) :
    Calls Tryd.prog 10 #[.agg #[.int .i64 f, .slice A n c], .agg #[.int .i64 g, .slice A' n' c']] w fun e w' => e = .returned (.bool true) ∧ Below w.heap.size w w' := by
  obtain ⟨hx, hy⟩ := two_cells w f g A A' n n' c c'
  have hb := two_boxes w f g A A' n n' c c'
  have HAL := Lib.hid (asm_alive _ (hT.ext hb))
  have HBX := Lib.hid hb
  have HX0 := Lib.hid hx
  have HY0 := Lib.hid hy
  have HT := Lib.hid hT
  have H1 := Lib.hid h1
  have H2 := Lib.hid h2
  have HOK := Lib.hid hok
  have HOK' := Lib.hid hok'
  have HF := Lib.hid hf
  have HG := Lib.hid hg
  have HLL := Lib.hid h1.len
  clear hx hy hb hT h1 h2 hok hok' hf hg
  go_enter Tryd.func10, Tryd.ntmps10
  go_wp2_with fail
  refine Calls.mono HAL.out ?_
  rintro e w1 ⟨rfl, hb1⟩
  have HB1 := Lib.hid (HBX.out.trans (hb1.mono HBX.out.size))
  have HX1 := Lib.hid (box_later HX0.out hb1)
  have HY1 := Lib.hid (box_later HY0.out hb1)
  have x0 : w1.cell? ⟨w.heap.size, 0, none⟩ = some (.int .i64 f) := cell_of_row w1 _ 0 _ 24 (0, 0) HX1.out
  have x1 : w1.cell? ⟨w.heap.size, 1, none⟩ = some (.slice A n c) := cell_of_row w1 _ 1 _ 24 (0, 0) HX1.out
  have y1 : w1.cell? ⟨w.heap.size + 1, 1, none⟩ = some (.slice A' n' c') := cell_of_row w1 _ 1 _ 24 (0, 0) HY1.out
  clear hb1
  by_cases hl : 100 < n
  · have d1 : decide ((100 : Int) < (n : Int)) = true := decide_eq_true (by omega)
    clear hl
    go_wp2_with fail
    go_ret
    exact ⟨rfl, HB1.out⟩
  have d1 : decide ((100 : Int) < (n : Int)) = false := decide_eq_false (by omega)
  by_cases hl' : 100 < n'
  · have d2 : decide ((100 : Int) < (n' : Int)) = true := decide_eq_true (by omega)
    clear hl hl'
    go_wp2_with fail
    go_ret
    exact ⟨rfl, HB1.out⟩
  have d2 : decide ((100 : Int) < (n' : Int)) = false := decide_eq_false (by omega)
  have hn1 : n ≤ 100 := by omega
  have HP1 := Lib.hid (print_any f HF.out A n c l w1 (HT.out.ext HB1.out) (H1.out.ext (stays_b HB1.out)) hn HOK.out)
  clear hl hl'
  go_wp2_with fail
  refine Calls.mono HP1.out ?_
  rintro e w2 ⟨he2, hb2⟩
  have HB2 := Lib.hid (HB1.out.trans (hb2.mono HB1.out.size))
  have HX2 := Lib.hid (box_later HX1.out hb2)
  have HY2 := Lib.hid (box_later HY1.out hb2)
  have y0 : w2.cell? ⟨w.heap.size + 1, 0, none⟩ = some (.int .i64 g) := cell_of_row w2 _ 0 _ 24 (0, 0) HY2.out
  have HP2 := Lib.hid (print_any g HG.out A' n' c' m w2 (HT.out.ext HB2.out) (H2.out.ext (stays_b HB2.out)) hn' HOK'.out)
  clear x0 x1 y1 hb2
  have y1 : w2.cell? ⟨w.heap.size + 1, 1, none⟩ = some (.slice A' n' c') := cell_of_row w2 _ 1 _ 24 (0, 0) HY2.out
  rcases he2 with ⟨hck, rfl⟩ | ⟨_, b, rfl, _, _⟩
  · have HCK := Lib.hid hck
    have hlen := printLs_len HF.out l HOK.out
    have HLAST := Lib.hid (print_last f l)
    have HCNT := Lib.hid (print_count f l)
    have HSAME := Lib.hid (fun h2 => same_texts (m := m) (g := g) hck h2)
    have HPRG := Lib.hid (fun (W : World) (hb : Below w2.heap.size w2 W) => programs_any f g A A' n n' c c' l m W (H1.out.ext (stays_b (HB2.out.trans (hb.mono HB2.out.size)))) (H2.out.ext (stays_b (HB2.out.trans (hb.mono HB2.out.size)))) hn hn')
    obtain ⟨P, hP⟩ : ∃ P, P = sameP f g l m := ⟨_, rfl⟩
    rw [← hP] at HSAME HPRG
    obtain ⟨L, hL⟩ : ∃ L, L = printLs f l := ⟨_, rfl⟩
    rw [← hL] at hlen HLAST HCNT HSAME ⊢
    have hpos : 0 < L.length := by
      rcases Nat.eq_zero_or_pos L.length with h | h
      · have := HLAST.out; rw [List.getElem?_eq_none (by omega)] at this; cases this
      · exact h
    have hl3 : L.length ≤ 20000 := by rw [HLL.out] at hlen; omega
    have HIX := Lib.hid (idx_tx L)
    have hsz := tx_size L
    have HIL := Lib.hid (show ∀ w, (Instr.index 9 (.string (tx L)) (.int .i64 ((L.length : Int) - 1))).run Tryd.prog w = .ok (.int .u8 10) w from fun w => by
      have h := HIX.out (L.length - 1) (by omega) w
      have h2 := HLAST.out
      rw [List.getElem?_eq_getElem (by omega)] at h2
      rw [Option.some.inj h2] at h
      rw [show ((L.length - 1 : Nat) : Int) = (L.length : Int) - 1 by omega] at h
      exact h)
    clear hck hP hL hlen
    go_wp2_with fail
    refine Calls.mono HP2.out ?_
    rintro e w3 ⟨he3, hb3⟩
    have HB3 := Lib.hid (HB2.out.trans (hb3.mono HB2.out.size))
    have HX3 := Lib.hid (box_later HX2.out hb3)
    have HY3 := Lib.hid (box_later HY2.out hb3)
    have HPR := Lib.hid (HPRG.out w3 hb3)
    clear y0 y1 hb3
    rcases he3 with ⟨hck2, rfl⟩ | ⟨_, b2, rfl, _, _⟩
    · have hst := HSAME.out hck2
      have hil := HIL.out
      have d3 : ((L.length : Int) == 0) = false := by rw [beq_eq_false_iff_ne]; omega
      have hPP : (P == P) = true := by simp
      obtain ⟨M, hM⟩ : ∃ M, M = tx (printLs g m) := ⟨_, rfl⟩
      obtain ⟨S, hS⟩ : ∃ S, S = tx L := ⟨_, rfl⟩
      obtain ⟨N, hN⟩ : ∃ N, N = L.length := ⟨_, rfl⟩
      rw [← hM] at hst ⊢
      rw [← hS] at hst hil hsz HIX ⊢
      rw [← hN] at hsz hil d3 hpos hl3
      have HNN := Lib.hid hN
      clear hck2 hM hS hN
      go_wp2_with fail
      clear hil d3
      go_loopw [9, 52] (fun t i wr => ∃ k : Nat, i = .int .i64 (k : Int) ∧ k ≤ N ∧ t = .int .i64 (((L.take k).count 10 : Nat) : Int) ∧ wr = w3) (fun _ i _ => N - (intOf i).toNat)
      case atStart => exact ⟨0, rfl, by omega, rfl, rfl⟩
      case round =>
        obtain ⟨k, rfl, hk, rfl, rfl⟩ := hrel
        by_cases hlt : k < N
        · have hkl : k < L.length := by rw [← HNN.out]; exact hlt
          have hix := HIX.out k hkl
          have HTK := Lib.hid (show L.take (k + 1) = L.take k ++ [L[k]] from List.take_succ_eq_append_getElem hkl)
          have hcl : (L.take k).count 10 ≤ k := by have := List.count_le_length (a := (10 : UInt8)) (l := L.take k); rw [List.length_take] at this; omega
          obtain ⟨q, hq⟩ : ∃ q, q = L[k] := ⟨_, rfl⟩
          rw [← hq] at hix HTK
          obtain ⟨C, hC⟩ : ∃ C, C = (L.take k).count 10 := ⟨_, rfl⟩
          rw [← hC] at hcl ⊢
          have HC := Lib.hid hC
          clear hq hC
          by_cases h10 : q = 10
          · have HE := Lib.hid (show (L.take (k + 1)).count 10 = C + 1 by rw [HTK.out, List.count_append, ← HC.out, h10]; rfl)
            have d4 : ((q.toNat : Int) == 10) = true := by rw [h10]; rfl
            clear h10
            go_wp2_with fail
            go_roundw
            case rel => exact ⟨k + 1, by go_num, by omega, by rw [HE.out]; go_num, trivial⟩
            case measure => simp [intOf]; omega
          · have HE := Lib.hid (show (L.take (k + 1)).count 10 = C by rw [HTK.out, List.count_append, ← HC.out, List.count_singleton, beq_eq_false_iff_ne.2 h10]; rfl)
            have d4 : ((q.toNat : Int) == 10) = false := by
              rw [beq_eq_false_iff_ne]
              intro h
              exact h10 (UInt8.toNat_inj.1 (by have e : (10 : UInt8).toNat = 10 := rfl; omega))
            clear h10
            go_wp2_with fail
            go_roundw
            case rel => exact ⟨k + 1, by go_num, by omega, by rw [HE.out], trivial⟩
            case measure => simp [intOf]; omega
        · obtain rfl : k = N := by omega
          have hce : (L.take k).count 10 = 1 + n := by rw [HNN.out, List.take_length, HCNT.out, HLL.out]
          rw [hce]
          have e1 : ((1 + n : Nat) : Int) = 1 + (n : Int) := by omega
          rw [e1]
          have x0 : wr.cell? ⟨w.heap.size, 0, none⟩ = some (.int .i64 f) := cell_of_row wr _ 0 _ 24 (0, 0) HX3.out
          have x1 : wr.cell? ⟨w.heap.size, 1, none⟩ = some (.slice A n c) := cell_of_row wr _ 1 _ 24 (0, 0) HX3.out
          have y0 : wr.cell? ⟨w.heap.size + 1, 0, none⟩ = some (.int .i64 g) := cell_of_row wr _ 0 _ 24 (0, 0) HY3.out
          have y1 : wr.cell? ⟨w.heap.size + 1, 1, none⟩ = some (.slice A' n' c') := cell_of_row wr _ 1 _ 24 (0, 0) HY3.out
          clear hce e1
          go_wp2_with fail
          refine Calls.mono HPR.out ?_
          rintro e w4 ⟨rfl, hb4⟩
          have HB4 := Lib.hid (HB3.out.trans (hb4.mono HB3.out.size))
          have HX4 := Lib.hid (box_later HX3.out hb4)
          clear x0 x1 y0 y1 hb4
          have x1 : w4.cell? ⟨w.heap.size, 1, none⟩ = some (.slice A n c) := cell_of_row w4 _ 1 _ 24 (0, 0) HX4.out
          go_wp2_with fail
          go_ret
          exact ⟨rfl, HB4.out⟩
    · go_wp2_with fail
      go_ret
      exact ⟨rfl, HB3.out⟩
  · go_wp2_with fail
    refine Calls.mono HP2.out ?_
    rintro e w3 ⟨he3, hb3⟩
    have HB3 := Lib.hid (HB2.out.trans (hb3.mono HB2.out.size))
    clear hb3
    rcases he3 with ⟨_, rfl⟩ | ⟨_, b2, rfl, _, _⟩
    · go_wp2_with fail
      go_ret
      exact ⟨rfl, HB3.out⟩
    · go_wp2_with fail
      go_ret
      exact ⟨rfl, HB3.out⟩
end Go.Proofs.YtkeckjgihjpfbaaDoor
