/- TreeSound: the walk. -/
import Derived.Test.YtdbckolndaodeaaTAlive
import Derived.Test.YtdbckolndaodeaaTOpen
namespace Go.Proofs.Ytdbckolndaodeaa
set_option maxRecDepth 100000
open Go.RowKit

set_option maxHeartbeats 1000000 in
theorem long_any (A : Option Addr) (n c : Nat) (w : World) : Calls Try.prog 9 #[.slice A n c] w fun e w' => e = .returned (.bool (decide ((300 : Int) < (n : Int)))) ∧ w = w' := by
  go_enter Try.func9, Try.ntmps9
  go_wp2_with fail
  go_ret
  exact ⟨rfl, rfl⟩
/-- A tree of new blocks, with few items whose numbers are numbers. -/
structure TN (w0 w : World) (tb : Nat) (l : List Ix) (d n : Nat) : Prop where
  ex : ∃ F, TL w F tb l d ∧ ∀ k, F k → w0.heap.size ≤ k
  few : l.length ≤ n
  nums : ∀ x ∈ l, In64 x.k
  b : Below w0.heap.size w0 w
section
variable {w0 w w1 : World} {tb d n : Nat} {l : List Ix}
theorem TN.later (h : TN w0 w tb l d n) (hb : Below w.heap.size w w1) : TN w0 w1 tb l d n := by
  obtain ⟨F, h1, h2⟩ := h.ex
  exact ⟨⟨F, h1.below hb, h2⟩, h.few, h.nums, h.b.trans (hb.mono h.b.size)⟩
theorem TN.more (h : TN w0 w tb l d n) {m : Nat} (hm : n ≤ m) : TN w0 w tb l d m := ⟨h.ex, Nat.le_trans h.few hm, h.nums, h.b⟩
theorem tn_turn {l' : List Ix} {F F' : Nat → Prop} {d' m : Nat} (h : TN w0 w tb l d n) (h2 : ∀ k, F k → w0.heap.size ≤ k) (hT : TL w1 F' tb l' d') (hC : Cg w w1 F F') (hf : l'.length ≤ m) (hn : ∀ x ∈ l', In64 x.k) : TN w0 w1 tb l' d' m := by
  have hs := h.b.size
  refine ⟨⟨F', hT, fun k e => ?_⟩, hf, hn, ⟨hC.ch.os.trans h.b.os, hC.ch.tape.trans h.b.tape, hC.ch.output.trans h.b.output, Nat.le_trans hs hC.ch.size, fun k hk => (hC.ch.block k (Nat.lt_of_lt_of_le hk hs) (fun e => by have := h2 k e; omega)).trans (h.b.block k hk)⟩⟩
  rcases hC.fr k e with e | e
  · exact h2 k e
  · exact Nat.le_trans hs e
theorem tn_set (h : TN w0 w tb l d n) (hn : n ≤ 99999) (x : Ix) (hx : In64 x.k) : Calls Try.prog 19 #[.pointer (some ⟨tb, 0, none⟩), .int .i64 x.k, .agg #[.int .i64 x.c.v, .int .i64 x.c.s, .bool x.c.dead]] w fun e w' => e = .returned (.tuple #[.agg #[.int .i64 (cv (getC x.k l)).v, .int .i64 (cv (getC x.k l)).s, .bool (cv (getC x.k l)).dead], .bool (getC x.k l).isSome]) ∧ ∃ d', TN w0 w' tb (ins x l) d' (n + 1) := by
  obtain ⟨F, h1, h2⟩ := h.ex
  have hf := h.few
  refine Calls.mono (tset_any h1 x (by omega)) ?_
  rintro e w' ⟨rfl, F', d', hT, hC⟩
  refine ⟨rfl, d', tn_turn h h2 hT hC ?_ fun y hy => ?_⟩
  · rw [ins_len h1.up x]
    split <;> omega
  · unfold ins at hy
    rcases List.mem_append.1 hy with e | e
    · exact h.nums y (List.mem_filter.1 e).1
    · rcases List.mem_cons.1 e with e | e
      · rw [e]; exact hx
      · exact h.nums y (List.mem_filter.1 e).1
theorem tn_drop (h : TN w0 w tb l d n) (hn : n ≤ 100000) (k : Int) : Calls Try.prog 18 #[.pointer (some ⟨tb, 0, none⟩), .int .i64 k] w fun e w' => e = .returned (.tuple #[.agg #[.int .i64 (cv (getC k l)).v, .int .i64 (cv (getC k l)).s, .bool (cv (getC k l)).dead], .bool (getC k l).isSome]) ∧ ∃ d', TN w0 w' tb (del k l) d' n := by
  obtain ⟨F, h1, h2⟩ := h.ex
  have hf := h.few
  refine Calls.mono (tdrop_any h1 k (by omega)) ?_
  rintro e w' ⟨rfl, F', d', hT, hC⟩
  exact ⟨rfl, d', tn_turn h h2 hT hC (Nat.le_trans (List.length_filter_le _ _) hf) fun y hy => h.nums y (List.mem_filter.1 hy).1⟩
theorem tn_get (h : TN w0 w tb l d n) (k : Int) : Calls Try.prog 12 #[.pointer (some ⟨tb, 0, none⟩), .int .i64 k] w fun e w' => e = .returned (.tuple #[.agg #[.int .i64 (cv (getC k l)).v, .int .i64 (cv (getC k l)).s, .bool (cv (getC k l)).dead], .bool (getC k l).isSome]) ∧ Below w.heap.size w w' := by
  obtain ⟨F, h1, h2⟩ := h.ex
  exact get_any h1 k
theorem tn_len (h : TN w0 w tb l d n) : Calls Try.prog 14 #[.pointer (some ⟨tb, 0, none⟩)] w fun e w' => e = .returned (.int .i64 (l.length : Int)) ∧ w = w' := by
  obtain ⟨F, h1, h2⟩ := h.ex
  exact len_any h1
theorem tn_sound (h : TN w0 w tb l d n) (hn : n ≤ 100000) : Calls Try.prog 21 #[.pointer (some ⟨tb, 0, none⟩)] w fun e w' => e = .returned (.bool true) ∧ Below w.heap.size w w' := by
  obtain ⟨F, h1, h2⟩ := h.ex
  exact tsound_any h1 (Nat.le_trans h.few hn) h.nums
theorem tn_deep (h : TN w0 w tb l d n) (hn : n ≤ 100000) : Calls Try.prog 20 #[.pointer (some ⟨tb, 0, none⟩)] w fun e w' => e = .returned (.int .i64 ((if l.length = 0 then 0 else d + 1 : Nat) : Int)) ∧ w = w' := by
  obtain ⟨F, h1, h2⟩ := h.ex
  by_cases hl : l.length = 0
  · rw [if_pos hl]
    obtain rfl := List.eq_nil_of_length_eq_zero hl
    exact deep_none h1
  · rw [if_neg hl]
    exact deep_some h1 (by omega) (by have := deep_bound h1 (Nat.le_trans h.few hn); omega)
theorem tn_bound (h : TN w0 w tb l d n) (hd : 0 < d) : 2 * 3 ^ d ≤ l.length + 1 := by
  obtain ⟨F, h1, h2⟩ := h.ex
  exact h1.deep hd
theorem tn_new (w : World) : Calls Try.prog 10 #[] w fun e w' => ∃ tb, e = .returned (.pointer (some ⟨tb, 0, none⟩)) ∧ TN w w' tb [] 0 0 := by
  refine Calls.mono (new_any w) ?_
  rintro e w' ⟨F, tb, rfl, h1, h2, h3⟩
  exact ⟨tb, rfl, ⟨F, h1, h2⟩, Nat.le_refl _, fun x hx => by simp at hx, h3⟩
end
theorem few_deep {d m : Nat} (h : 2 * 3 ^ d ≤ m + 1) (hm : m ≤ 300) : d ≤ 4 := by
  rcases Nat.lt_or_ge d 5 with h2 | h2
  · omega
  · exfalso
    have h3 : 3 ^ 5 ≤ 3 ^ d := Nat.pow_le_pow_right (by omega) h2
    have h4 : (3 : Nat) ^ 5 = 243 := by decide
    omega
set_option maxHeartbeats 16000000 in
theorem sound_law (A : Option Addr) (c : Nat) (os : List Ot) (w : World) (ho : Ots w A os) (hk : ∀ o ∈ os, In64 o.k) : Calls Try.prog 4 #[.slice A os.length c] w fun e w' => e = .returned (.bool true) ∧ Below w.heap.size w w' := by
  have HA := Lib.hid (alive_any w)
  have HO := Lib.hid ho
  have HK := Lib.hid hk
  obtain ⟨n, hn⟩ : ∃ n, n = os.length := ⟨_, rfl⟩
  have HN := Lib.hid hn
  rw [← hn]
  clear ho hk hn
  by_cases h3 : 300 < n
  · have d3 : decide ((300 : Int) < (n : Int)) = true := decide_eq_true (by omega)
    clear h3
    go_enter Try.func4, Try.ntmps4
    go_wp2_with fail
    refine Calls.mono HA.out ?_
    rintro e w1 ⟨rfl, hb1⟩
    have HB1 := Lib.hid hb1
    clear hb1
    go_wp2_with fail
    refine Calls.mono (long_any A n c w1) ?_
    rintro e w2 ⟨rfl, rfl⟩
    go_wp2_with fail
    go_ret
    exact ⟨rfl, HB1.out⟩
  · have d3 : decide ((300 : Int) < (n : Int)) = false := decide_eq_false (by omega)
    have hn3 : n ≤ 300 := by omega
    clear h3
    go_enter Try.func4, Try.ntmps4
    go_wp2_with fail
    refine Calls.mono HA.out ?_
    rintro e w1 ⟨rfl, hb1⟩
    have HB1 := Lib.hid hb1
    clear hb1
    go_wp2_with fail
    refine Calls.mono (long_any A n c w1) ?_
    rintro e w2 ⟨rfl, rfl⟩
    go_wp2_with fail
    refine Calls.mono (tn_new w1) ?_
    rintro e w2 ⟨tb, rfl, hT⟩
    have HT0 := Lib.hid hT
    clear hT d3
    go_wp2_with fail
    go_loopw [5, 6, 7, 15, 16, 17, 18, 19, 20, 21, 22, 23, 24, 25, 26, 27, 28, 29, 30, 31, 32, 33, 34, 35, 36, 37, 38, 39, 40, 41, 42, 43, 44, 45, 46, 47, 48, 49, 50, 51, 52, 53, 54, 55, 56, 57, 58, 59, 60, 61, 62, 63, 64, 65, 66, 67, 68, 69, 70] (fun _ _ _ ix _ _ _ _ _ _ _ _ _ _ _ _ _ _ _ _ _ _ _ _ _ _ _ _ _ _ _ _ _ _ _ _ _ _ _ _ _ _ _ _ _ _ _ _ _ _ _ _ _ _ _ _ _ _ _ wr => ∃ (z d : Nat) (l : List Ix), ix = .int .i64 (z : Int) ∧ z ≤ n ∧ TN w1 wr tb l d z) (fun _ _ _ ix _ _ _ _ _ _ _ _ _ _ _ _ _ _ _ _ _ _ _ _ _ _ _ _ _ _ _ _ _ _ _ _ _ _ _ _ _ _ _ _ _ _ _ _ _ _ _ _ _ _ _ _ _ _ _ _ => n - (intOf ix).toNat)
    case atStart => exact ⟨0, 0, [], rfl, by omega, HT0.out⟩
    case round =>
      obtain ⟨z, d, l, rfl, hz, hT⟩ := hrel
      have HT := Lib.hid hT
      clear hT
      by_cases hlt : z < n
      · have hzl : z < os.length := by rw [← HN.out]; exact hlt
        have hbw : Below w.heap.size w wr := HB1.out.trans (HT.out.b.mono HB1.out.size)
        obtain ⟨b, off, rfl, hcl⟩ := Ots.cell (RowAt.below HO.out hbw) (by omega)
        obtain ⟨x0, x1, x2, x3, x4⟩ := hcl z hzl
        obtain ⟨o, ho⟩ : ∃ o, o = os[z] := ⟨_, rfl⟩
        have hok : In64 o.k := by rw [ho]; exact HK.out _ (List.getElem_mem hzl)
        rw [← ho] at x0 x1 x2 x3 x4
        obtain ⟨dp, hdp⟩ : ∃ dp, dp = o.drop := ⟨_, rfl⟩
        rw [← hdp] at x4
        have HOK := Lib.hid hok
        have HT1 := Lib.hid (HT.out.later ((Below.refl _ wr).alloc (Nat.le_refl _) (.cells #[.int .i64 o.k, .int .i64 o.c.v, .int .i64 o.c.s, .bool o.c.dead, .bool dp] 31)))
        have HS := Lib.hid (tn_set HT1.out (by omega) ⟨o.k, o.c⟩ hok)
        have HD := Lib.hid (tn_drop HT1.out (by omega) o.k)
        clear hcl ho hok hdp hbw
        go_upto_if 20 with fail
        go_cut [] from 21 to 36 (fun wx => ∃ (d2 : Nat) (l2 : List Ix), TN w1 wx tb l2 d2 (z + 1))
        case first =>
          cases dp with
          | true =>
            go_wp2_with fail
            refine Calls.mono HD.out ?_
            rintro e w3 ⟨rfl, d2, hT2⟩
            have HT2 := Lib.hid hT2
            clear hT2
            go_wp2_with fail
            go_meet
            exact ⟨d2, _, HT2.out.more (by omega)⟩
          | false =>
            go_wp2_with fail
            refine Calls.mono HS.out ?_
            rintro e w3 ⟨rfl, d2, hT2⟩
            have HT2 := Lib.hid hT2
            clear hT2
            go_wp2_with fail
            go_meet
            exact ⟨d2, _, HT2.out⟩
        case rest =>
          clear HT HT1 HS HD x0 x1 x2 x3 x4
          obtain ⟨d2, l2, hT⟩ := hcut
          have HT := Lib.hid hT
          have HDP := Lib.hid (tn_deep hT (by omega))
          have HSO := Lib.hid (tn_sound hT (by omega))
          obtain ⟨m, hm⟩ : ∃ m, m = l2.length := ⟨_, rfl⟩
          rw [← hm] at HDP
          have hm3 : m ≤ 300 := by have := hT.few; omega
          have HM := Lib.hid hm
          clear hT hm
          by_cases hl0 : m = 0
          · rw [if_pos hl0] at HDP
            subst hl0
            go_wp2_with fail
            refine Calls.mono HDP.out ?_
            rintro e w3 ⟨rfl, rfl⟩
            go_wp2_with fail
            refine Calls.mono HSO.out ?_
            rintro e w3 ⟨rfl, hb3⟩
            have HT3 := Lib.hid (HT.out.later hb3)
            have HLN := Lib.hid (tn_len HT3.out)
            rw [← HM.out] at HLN
            clear hb3
            go_wp2_with fail
            refine Calls.mono HLN.out ?_
            rintro e w4 ⟨rfl, rfl⟩
            go_wp2_with fail
            go_loopw [7, 56, 57, 58, 59, 60] (fun _ ix _ _ _ _ wx => ix = .int .i64 0 ∧ wx = w3) (fun _ ix _ _ _ _ _ => 0)
            case atStart => exact ⟨rfl, rfl⟩
            case round =>
              obtain ⟨rfl, rfl⟩ := hrel
              go_wp2_with fail
              go_roundw
              case rel => exact ⟨z + 1, d2, l2, by go_num, by omega, HT3.out⟩
              case measure => simp [intOf]; omega
          · rw [if_neg hl0] at HDP
            have hdb : d2 ≤ 4 := by
              rcases Nat.eq_zero_or_pos d2 with e | e
              · omega
              · have := tn_bound HT.out e
                rw [← HM.out] at this
                exact few_deep this hm3
            have t1 : ((m : Int) == 0) = false := by rw [beq_eq_false_iff_ne]; omega
            obtain ⟨D, hD⟩ : ∃ D, D = d2 + 1 := ⟨_, rfl⟩
            rw [← hD] at HDP
            have hD5 : D ≤ 5 := by omega
            have t2 : ((D : Int) == 0) = false := by rw [beq_eq_false_iff_ne]; omega
            have t3 : decide ((20 : Int) < (D : Int)) = false := decide_eq_false (by omega)
            have t4 : decide (20 < D) = false := decide_eq_false (by omega)
            have t5 : (D : Int) - 1 = (d2 : Int) := by omega
            have HDD := Lib.hid (And.intro hD hdb)
            clear hD hdb
            go_wp2_with fail
            refine Calls.mono HDP.out ?_
            rintro e w3 ⟨rfl, rfl⟩
            go_wp2_with fail
            refine Calls.mono HSO.out ?_
            rintro e w3 ⟨rfl, hb3⟩
            have HT3 := Lib.hid (HT.out.later hb3)
            have HLN := Lib.hid (tn_len HT3.out)
            rw [← HM.out] at HLN
            clear hb3
            go_wp2_with fail
            refine Calls.mono HLN.out ?_
            rintro e w4 ⟨rfl, rfl⟩
            go_wp2_with fail
            clear t1 t2 t3 t4 t5
            have t5 : (D : Int) - 1 = (d2 : Int) := by have := HDD.out.1; omega
            go_loopw [7, 56, 57, 58, 59, 60] (fun nd ix _ _ _ _ wx => ∃ j y : Nat, ix = .int .i64 (j : Int) ∧ nd = .int .i64 (y : Int) ∧ y = 2 * 3 ^ j ∧ j ≤ d2 ∧ wx = w3) (fun _ ix _ _ _ _ _ => d2 - (intOf ix).toNat)
            case atStart => exact ⟨0, 2, rfl, rfl, rfl, Nat.zero_le _, rfl⟩
            case round =>
              obtain ⟨j, y, rfl, rfl, hy, hj, rfl⟩ := hrel
              have hyb : y ≤ 1000 := by
                have h1 : 3 ^ j ≤ 3 ^ 4 := Nat.pow_le_pow_right (by omega) (Nat.le_trans hj HDD.out.2)
                have h2 : (3 : Nat) ^ 4 = 81 := by decide
                omega
              have HY := Lib.hid hy
              clear hy
              by_cases hjd : j < d2
              · go_wp2_with fail
                go_roundw
                case rel => exact ⟨j + 1, y * 3, by go_num, by go_num, by rw [HY.out, Nat.pow_succ]; omega, by omega, trivial⟩
                case measure => simp [intOf]; omega
              · obtain rfl : j = d2 := by omega
                by_cases hd0 : j = 0
                · have t6 : decide ((1 : Int) < (D : Int)) = false := decide_eq_false (by have := HDD.out.1; omega)
                  have t7 : decide (1 < D) = false := decide_eq_false (by have := HDD.out.1; omega)
                  clear hjd hd0
                  go_wp2_with fail
                  go_roundw
                  case rel => exact ⟨z + 1, j, l2, by go_num, by omega, HT3.out⟩
                  case measure => simp [intOf]; omega
                · have t6 : decide ((1 : Int) < (D : Int)) = true := decide_eq_true (by have := HDD.out.1; omega)
                  have t7 : decide (1 < D) = true := decide_eq_true (by have := HDD.out.1; omega)
                  have t8 : decide ((m : Int) < (y : Int) - 1) = false := decide_eq_false (by
                    have h1 := tn_bound HT.out (by omega)
                    rw [← HM.out, ← HY.out] at h1
                    omega)
                  clear hjd hd0
                  go_wp2_with fail
                  refine Calls.mono HLN.out ?_
                  rintro e w4 ⟨rfl, rfl⟩
                  go_wp2_with fail
                  go_roundw
                  case rel => exact ⟨z + 1, j, l2, by go_num, by omega, HT3.out⟩
                  case measure => simp [intOf]; omega
      · obtain rfl : z = n := by omega
        go_wp2_with fail
        go_ret
        exact ⟨rfl, HB1.out.trans (HT.out.b.mono HB1.out.size)⟩
end Go.Proofs.Ytdbckolndaodeaa
