/- The contracts of crc.noughts and crc.Turn. -/
import Derived.Test.YtfajalhpenincaaDoorTwice
import Derived.Lib.RabinKarpLaws
namespace Go.Proofs.YtfajalhpenincaaDoor
open Go.RowKit

theorem store_first (w : World) : (storeCells ⟨w.heap.size, 0, none⟩ (cols oneN).toList).run Tryd.prog (w.alloc (.cells (#[.int .u32 0, .int .u32 0, .int .u32 0, .int .u32 0, .int .u32 0, .int .u32 0, .int .u32 0, .int .u32 0, .int .u32 0, .int .u32 0, .int .u32 0, .int .u32 0, .int .u32 0, .int .u32 0, .int .u32 0, .int .u32 0, .int .u32 0, .int .u32 0, .int .u32 0, .int .u32 0, .int .u32 0, .int .u32 0, .int .u32 0, .int .u32 0, .int .u32 0, .int .u32 0, .int .u32 0, .int .u32 0, .int .u32 0, .int .u32 0, .int .u32 0, .int .u32 0] : Array Value) 48)) = .ok () ((w.alloc (.cells (#[.int .u32 0, .int .u32 0, .int .u32 0, .int .u32 0, .int .u32 0, .int .u32 0, .int .u32 0, .int .u32 0, .int .u32 0, .int .u32 0, .int .u32 0, .int .u32 0, .int .u32 0, .int .u32 0, .int .u32 0, .int .u32 0, .int .u32 0, .int .u32 0, .int .u32 0, .int .u32 0, .int .u32 0, .int .u32 0, .int .u32 0, .int .u32 0, .int .u32 0, .int .u32 0, .int .u32 0, .int .u32 0, .int .u32 0, .int .u32 0, .int .u32 0, .int .u32 0] : Array Value) 48)).setRow w.heap.size (cols oneN)) :=
  store_cols (show Blk (w.alloc (.cells (cols (part [] 0)) 48)) w.heap.size (part [] 0) from heap_alloc_new w _) (by decide) oneN_length
theorem blk_first (w : World) : Blk ((w.alloc (.cells (#[.int .u32 0, .int .u32 0, .int .u32 0, .int .u32 0, .int .u32 0, .int .u32 0, .int .u32 0, .int .u32 0, .int .u32 0, .int .u32 0, .int .u32 0, .int .u32 0, .int .u32 0, .int .u32 0, .int .u32 0, .int .u32 0, .int .u32 0, .int .u32 0, .int .u32 0, .int .u32 0, .int .u32 0, .int .u32 0, .int .u32 0, .int .u32 0, .int .u32 0, .int .u32 0, .int .u32 0, .int .u32 0, .int .u32 0, .int .u32 0, .int .u32 0, .int .u32 0] : Array Value) 48)).setRow w.heap.size (cols oneN)) w.heap.size oneN :=
  (show Blk (w.alloc (.cells (cols (part [] 0)) 48)) w.heap.size (part [] 0) from heap_alloc_new w _).put oneN

set_option maxHeartbeats 1000000 in
theorem noughts_any (r : Nat) (hr : r < 4294967296) (z : Int) (hz : z ≤ 9223372036854775807) (w : World) (hT : Tab w) :
    Calls Tryd.prog 21 #[.int .u32 (r : Int), .int .i64 z] w fun e w' => e = .returned (.int .u32 ((nl 64 oneN z.toNat r : Nat) : Int)) ∧ Below w.heap.size w w' := by
  have HO := Lib.hid (oneNought_any w hT)
  clear hT
  go_enter Tryd.func21, Tryd.ntmps21
  go_wp2_with fail
  refine Calls.mono HO.out ?_
  rintro e w1 ⟨rfl, hb1⟩
  have hcs : (cols oneN).size = 32 := by rw [cols_size, oneN_length]
  have hst := store_first w1
  have hB0 := blk_first w1
  have hb2 := below_setRow (hb1.alloc hb1.size (.cells (#[.int .u32 0, .int .u32 0, .int .u32 0, .int .u32 0, .int .u32 0, .int .u32 0, .int .u32 0, .int .u32 0, .int .u32 0, .int .u32 0, .int .u32 0, .int .u32 0, .int .u32 0, .int .u32 0, .int .u32 0, .int .u32 0, .int .u32 0, .int .u32 0, .int .u32 0, .int .u32 0, .int .u32 0, .int .u32 0, .int .u32 0, .int .u32 0, .int .u32 0, .int .u32 0, .int .u32 0, .int .u32 0, .int .u32 0, .int .u32 0, .int .u32 0, .int .u32 0] : Array Value) 48)) hb1.size (cols oneN)
  have hsz := hb1.size
  have HB0 := Lib.hid hB0
  have HB2 := Lib.hid hb2
  clear hB0 hb2 hb1
  go_wp2_with fail
  have h0 := HB0.out
  have h2 := HB2.out
  revert h0 h2
  generalize World.setRow _ _ _ = w2
  intro hB hb2
  clear HB0 HB2 hst hcs HO
  have hgo : nl 64 oneN z.toNat r = nl 64 oneN z.toNat r := rfl
  have hlt : z.toNat < 2 ^ 64 := by omega
  go_loopw [0, 1] (fun g i wr => ∃ (f : Nat) (mt : List Nat) (q : Int) (gn : Nat), i = .int .i64 q ∧ g = .int .u32 (gn : Int) ∧ gn < 4294967296 ∧ q ≤ 9223372036854775807 ∧ q.toNat < 2 ^ f ∧ mt.length = 32 ∧ Words mt ∧ nl f mt q.toNat gn = nl 64 oneN z.toNat r ∧ Blk wr w1.heap.size mt ∧ Below w.heap.size w wr) (fun _ i _ => (intOf i).toNat)
  case atStart => exact ⟨64, oneN, z, r, rfl, rfl, hr, hz, hlt, oneN_length, oneN_words, rfl, hB, hb2⟩
  case round =>
    obtain ⟨f, mt, q, gn, rfl, rfl, hg, hq, hqf, hml, hmw, hnl, hbk, hbr⟩ := hrel
    clear hB hb2 hgo hlt
    by_cases hpos : 0 < q
    · obtain ⟨f, rfl⟩ : ∃ f', f = f' + 1 := by
        rcases f with _ | f
        · exfalso; rw [Nat.pow_zero] at hqf; omega
        · exact ⟨f, rfl⟩
      have hnext : nl (f + 1) mt q.toNat gn = nl f (tw mt) (q.toNat / 2) (if q.toNat % 2 = 1 then ofL mt gn else gn) := by
        show (if q.toNat = 0 then gn else _) = _
        rw [if_neg (by omega)]
      have hq2 : (q / 2).toNat = q.toNat / 2 := by omega
      have e1 : bits BinOp.and IntKind.i64 q 1 = q % 2 := by
        obtain ⟨n, rfl⟩ := Int.eq_ofNat_of_zero_le (Int.le_of_lt hpos)
        rw [and_one n (by omega)]
        omega
      by_cases hodd : q % 2 = 1
      · have e2 : (q % 2 == 1) = true := by rw [beq_iff_eq]; exact hodd
        go_wp2_with (first | refine wpList_load_row rfl 48 (.tmp 5) rfl w1.heap.size rfl 48 (cols mt) (0, 0) _ hbk u48 rfl (info_cols hml) ?_)
        refine Calls.mono (of_any mt hml hmw gn hg wr) ?_
        rintro e w9 ⟨rfl, hb9⟩
        have hb9' := hbr.trans (hb9.mono hbr.size)
        have hbk9 := Below.blk_old hb9 hbk
        have hol := ofL_lt hmw gn
        have hn2 : nl f (tw mt) (q / 2).toNat (ofL mt gn) = nl 64 oneN z.toNat r := by
          rw [← hnl, hnext, hq2, if_pos (by omega)]
        obtain ⟨y, hy⟩ : ∃ y, y = ofL mt gn := ⟨_, rfl⟩
        rw [← hy] at hol hn2 ⊢
        clear hb9 hbr hbk hnext hnl hy
        go_wp2_with (first | refine wpList_load_row rfl 48 (.tmp 5) rfl w1.heap.size rfl 48 (cols mt) (0, 0) _ hbk9 u48 rfl (info_cols hml) ?_)
        have htl : (tw mt).length = 32 := by rw [tw_length, hml]
        have htw := tw_words hmw
        refine Calls.mono (twice_any mt hml hmw w9) ?_
        rintro e wx ⟨rfl, hbx⟩
        have hbz := Below.blk_old hbx hbk9
        have hst := store_cols hbz hml htl
        have hcs : (cols (tw mt)).size = 32 := by rw [cols_size, htl]
        have hnew := hbz.put (tw mt)
        have hbel := below_setRow (hb9'.trans (hbx.mono hb9'.size)) hsz (cols (tw mt))
        have HNW := Lib.hid hnew
        have HBL := Lib.hid hbel
        clear hbx hbz hnew hbel
        go_wp2_with fail
        go_roundw
        case rel => exact ⟨f, tw mt, q / 2, y, by go_num, rfl, hol, by omega, by rw [hq2]; rw [Nat.pow_succ] at hqf; omega, htl, htw, hn2, HNW.out, HBL.out⟩
        case measure => simp [intOf]; omega
      · have e2 : (q % 2 == 1) = false := by rw [beq_eq_false_iff_ne]; exact hodd
        have hn2 : nl f (tw mt) (q / 2).toNat gn = nl 64 oneN z.toNat r := by
          rw [← hnl, hnext, hq2, if_neg (by omega)]
        clear hnext hnl
        go_wp2_with (first | refine wpList_load_row rfl 48 (.tmp 5) rfl w1.heap.size rfl 48 (cols mt) (0, 0) _ hbk u48 rfl (info_cols hml) ?_)
        have htl : (tw mt).length = 32 := by rw [tw_length, hml]
        have htw := tw_words hmw
        refine Calls.mono (twice_any mt hml hmw wr) ?_
        rintro e wx ⟨rfl, hbx⟩
        have hbz := Below.blk_old hbx hbk
        have hst := store_cols hbz hml htl
        have hcs : (cols (tw mt)).size = 32 := by rw [cols_size, htl]
        have hnew := hbz.put (tw mt)
        have hbel := below_setRow (hbr.trans (hbx.mono hbr.size)) hsz (cols (tw mt))
        have HNW := Lib.hid hnew
        have HBL := Lib.hid hbel
        clear hbx hbz hnew hbel
        go_wp2_with fail
        go_roundw
        case rel => exact ⟨f, tw mt, q / 2, gn, by go_num, rfl, hg, by omega, by rw [hq2]; rw [Nat.pow_succ] at hqf; omega, htl, htw, hn2, HNW.out, HBL.out⟩
        case measure => simp [intOf]; omega
    · have hend : gn = nl 64 oneN z.toNat r := by
        rw [← hnl, show q.toNat = 0 by omega, nl_done]
      have HE := Lib.hid hend
      clear hend hnl
      go_wp2_with fail
      go_ret
      exact ⟨ret_u32 HE.out, hbr⟩
end Go.Proofs.YtfajalhpenincaaDoor
