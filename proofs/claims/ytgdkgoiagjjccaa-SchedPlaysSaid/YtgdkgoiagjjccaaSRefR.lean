/- The document's ready tasks. -/
import Derived.Test.YtgdkgoiagjjccaaSRef
import Derived.Deep.QuietTactic
import Derived.BigQuiet
namespace Go.Proofs.Ytgdkgoiagjjccaa
set_option maxRecDepth 100000
open Go.RowKit

/-- Has a task no worker, and isn't it done? -/
def freeB (s : PS) (i : Nat) : Bool := !decide (s.kd i = 3) && decide (s.wk i = -1)
/-- So far as the first of those on which it leans are done. -/
def okB (ls : List (List Int)) (s : PS) (i u : Nat) : Bool := freeB s i && ((ls.getD i []).take u).all fun j => decide (s.kd j.toNat = 3)
theorem okB_zero (ls : List (List Int)) (s : PS) (i : Nat) : okB ls s i 0 = freeB s i := by simp [okB]
theorem okB_succ (ls : List (List Int)) (s : PS) (i u : Nat) (hu : u < (ls.getD i []).length) : okB ls s i (u + 1) = (okB ls s i u && decide (s.kd ((ls.getD i []).getD u 0).toNat = 3)) := by
  have h1 : (ls.getD i [])[u]? = some ((ls.getD i []).getD u 0) := getD_some hu
  unfold okB
  rw [List.take_add_one, h1, List.all_append, Bool.and_assoc]
  simp
theorem okB_rdy {ls : List (List Int)} {s : PS} (h : Inv ls s) {i : Nat} (hi : i < s.n) : okB ls s i (ls.getD i []).length = s.rdy i := by
  rw [Bool.eq_iff_iff, h.ready hi]
  unfold okB freeB
  rw [List.take_length]
  simp only [Bool.and_eq_true, Bool.not_eq_true', decide_eq_false_iff_not, decide_eq_true_eq, List.all_eq_true]
  have := h.has i hi
  constructor
  · rintro ⟨⟨h1, h2⟩, h3⟩
    exact ⟨(this.1 h2).resolve_right h1, h3⟩
  · rintro ⟨h1, h3⟩
    exact ⟨⟨by omega, this.2 (.inl h1)⟩, h3⟩
set_option maxHeartbeats 4000000 in
theorem refready_any (A : Option Addr) (c : Nat) (A2 : Option Addr) (c2 : Nat) (A3 : Option Addr) (c3 : Nat) (A4 : Option Addr) (c4 : Nat) (p : Int) (ls : List (List Int)) (s : PS) (w : World) (h : RefR w A A2 A3 A4 ls s) (hI : Inv ls s) (hn : s.n ≤ 1000000) (hm : s.m ≤ 1000000) :
    Calls Try.prog 74 #[refV A s.n c A2 c2 A3 s.m c3 A4 c4 p] w fun e W' => ∃ v, e = .returned v ∧ ∃ A c, v = .slice A (rdyTo s s.n).length c ∧ Nums W' A (rdyTo s s.n).length (rdyTo s s.n) ∧ (∀ a, A = some a → w.heap.size ≤ a.block) ∧ Below w.heap.size w W' := by
  have hb := (Below.refl _ w).alloc (Nat.le_refl _) (.cells (refC A s.n c A2 c2 A3 s.m c3 A4 c4 p) 74)
  have HB := Lib.hid hb
  have HH := Lib.hid h
  have HI := Lib.hid hI
  have HBX := Lib.hid (heap_alloc_new w (.cells (refC A s.n c A2 c2 A3 s.m c3 A4 c4 p) 74))
  have HC := Lib.hid (fun i w' (hi : i < s.n) (hb : Below w.heap.size w w') => holder_any A c A2 c2 A3 c3 A4 c4 p ls s i w' (h.below hb) hI hi hm)
  obtain ⟨m, hm'⟩ : ∃ m, m = s.m := ⟨_, rfl⟩
  obtain ⟨n, hn'⟩ : ∃ n, n = s.n := ⟨_, rfl⟩
  have HN := Lib.hid hn'
  rw [← hn'] at hn
  unfold refV refC at *
  rw [← hm'] at HB HBX HC ⊢
  rw [← hn'] at HB HBX HC ⊢
  clear h hI hb hn' hm'
  go_enter Try.func74, Try.ntmps74
  go_wp2_with fail
  go_loopw [3, 4, 5, 6] (fun v x _ _ wr => ∃ k : Nat, x = .int .i64 (k : Int) ∧ k ≤ n ∧ wr.ownsRow (w.heap.size + 1) 3 1 v (rdyTo s k).length (valsZ (rdyTo s k)) ∧ wr.heap[w.heap.size]? = some (.cells #[.slice A n c, .slice A2 n c2, .slice A3 m c3, .slice A4 m c4, .int .i64 p] 74 (0, 0)) ∧ Below w.heap.size w wr) (fun _ x _ _ _ => n - (intOf x).toNat)
  case atStart => exact ⟨0, rfl, by omega, World.ownsRow_nil _ _ _ _, HBX.out, HB.out⟩
  case round =>
    obtain ⟨k, rfl, hk, hown, hbx, hbr⟩ := hrel
    by_cases hlt : k < n
    · obtain ⟨b, off, rfl, hrow⟩ := (HH.out.leans.ext (stays_w hbr)).2.2 (by rw [← HN.out]; omega)
      obtain ⟨A', c', hc1, hnums, hLb⟩ := hrow k (by rw [← HN.out]; exact hlt)
      obtain ⟨b2, off2, rfl, hen⟩ := (HH.out.ended.ext (stays_w hbr)).2.2 (by rw [← HN.out]; omega)
      have e1 := hen k (by rw [← HN.out]; exact hlt)
      rw [enL_at s k (by rw [← HN.out]; exact hlt)] at e1
      have y0 := cell_of_row wr _ 0 _ 74 (0, 0) hbx
      have y1 := cell_of_row wr _ 1 _ 74 (0, 0) hbx
      have y2 := cell_of_row wr _ 2 _ 74 (0, 0) hbx
      have y3 := cell_of_row wr _ 3 _ 74 (0, 0) hbx
      have y4 := cell_of_row wr _ 4 _ 74 (0, 0) hbx
      simp only [List.getElem?_toArray, List.getElem?_cons_zero, List.getElem?_cons_succ] at y0 y1 y2 y3 y4
      have HEN := Lib.hid hen
      have HNU := Lib.hid hnums
      have HO := Lib.hid hown
      have HBXX := Lib.hid hbx
      have HBR := Lib.hid hbr
      have HCK := Lib.hid (HC.out k wr hlt hbr)
      have C1 := Lib.hid hc1
      clear hrow hen hnums hown hbx hbr
      go_upto_region 5 with fail
      go_cut [5] from 14 to 25 (fun v wx => v = .bool (freeB s k) ∧ Below wr.heap.size wr wx)
      case first =>
        by_cases he : s.kd k = 3
        · rw [decide_eq_true he] at e1
          have HF := Lib.hid (show freeB s k = false from by simp [freeB, he])
          clear he
          go_wp2_with fail
          go_meet
          case rel => exact ⟨by rw [HF.out], Below.refl _ _⟩
        · rw [decide_eq_false he] at e1
          have HF := Lib.hid (show freeB s k = decide (s.wk k = -1) from by simp [freeB, he])
          have hwk : s.wk k = -1 ∨ 0 ≤ s.wk k := by
            by_cases h1 : s.wk k = -1
            · exact .inl h1
            · exact .inr (HI.out.wk k (by rw [← HN.out]; exact hlt) h1).1
          obtain ⟨z, hz⟩ : ∃ z, z = s.wk k := ⟨_, rfl⟩
          rw [← hz] at HCK HF hwk
          clear he hz
          go_wp2_with fail
          refine Calls.mono HCK.out ?_
          rintro e w2 ⟨rfl, hb2⟩
          have HB2 := Lib.hid hb2
          clear hb2
          rcases hwk with rfl | hwk
          · go_wp2_with fail
            go_meet
            case rel => exact ⟨by rw [HF.out]; rfl, HB2.out⟩
          · have hz2 : ¬ z < 0 := by omega
            have HZ := Lib.hid (show decide (z = -1) = false from decide_eq_false (by omega))
            go_wp2_with fail
            go_meet
            case rel => exact ⟨by rw [HF.out, HZ.out, decide_eq_false (by omega)], HB2.out⟩
      case rest =>
        obtain ⟨rfl, hb2⟩ := hcut
        have HB2 := Lib.hid hb2
        have HO2 := Lib.hid (ownsRow_ext HO.out hb2)
        have HBX2 := Lib.hid ((hb2.block _ (Array.getElem?_eq_some_iff.1 HBXX.out).1).trans HBXX.out)
        have HBR2 := Lib.hid (HBR.out.trans (hb2.mono HBR.out.size))
        obtain ⟨ok, hok⟩ : ∃ b, b = freeB s k := ⟨_, rfl⟩
        have HOK := Lib.hid (show okB ls s k 0 = ok by rw [okB_zero, hok])
        rw [← hok]
        clear hb2 hok y0 y1 y2 y3 y4 e1 HCK HO HBXX HBR hc1
        obtain ⟨L, hL⟩ : ∃ L, L = (ls.getD k []).length := ⟨_, rfl⟩
        rw [← hL] at C1 HNU hLb
        have HL := Lib.hid hL
        clear hL
        go_wp2_with fail
        go_loopw [5, 6] (fun b x wx => ∃ u : Nat, x = .int .i64 (u : Int) ∧ u ≤ L ∧ b = .bool (okB ls s k u) ∧ Below wc.heap.size wc wx) (fun _ x _ => L - (intOf x).toNat)
        case atStart => exact ⟨0, rfl, by omega, by rw [HOK.out], Below.refl _ _⟩
        case round =>
          obtain ⟨u, rfl, hu, rfl, hbx⟩ := hrel
          have HBY := Lib.hid hbx
          have hy := (hbx.block _ (Array.getElem?_eq_some_iff.1 HBX2.out).1).trans HBX2.out
          have y0 := cell_of_row wr _ 0 _ 74 (0, 0) hy
          have y1 := cell_of_row wr _ 1 _ 74 (0, 0) hy
          simp only [List.getElem?_toArray, List.getElem?_cons_zero, List.getElem?_cons_succ] at y0 y1
          have hbw := HBR2.out.trans (hbx.mono HBR2.out.size)
          have c1 := (HB2.out.trans (hbx.mono HB2.out.size)).cell (p := ⟨b, off + k, none⟩) (World.block_lt_of_cell? _ _ C1.out)
          rw [C1.out] at c1
          clear hbx hy
          by_cases hul : u < L
          · have hs := okB_succ ls s k u (by rw [← HL.out]; exact hul)
            have hx := HI.out.good.mem (getD_mem (by rw [← HL.out]; exact hul))
            obtain ⟨j, hj⟩ : ∃ j : Nat, (ls.getD k []).getD u 0 = (j : Int) := ⟨((ls.getD k []).getD u 0).toNat, by omega⟩
            obtain ⟨b3, off3, rfl, hc3⟩ := (HNU.out.ext (stays_w (HB2.out.trans (HBY.out.mono HB2.out.size)))).2.2 (by omega)
            have c3 := hc3 u hul
            rw [hj] at hs hx c3
            rw [Int.toNat_natCast] at hs
            have e3 := (HH.out.ended.ext (stays_w hbw)).2.2 (by rw [← HN.out]; omega)
            obtain ⟨b4, off4, e4, hen⟩ := e3
            injection e4 with e4
            injection e4 with e4 e5
            subst e4 e5
            have e5 := hen j (by rw [← HN.out]; omega)
            rw [enL_at s j (by rw [← HN.out]; omega)] at e5
            obtain ⟨ej, hej⟩ : ∃ e, e = decide (s.kd j = 3) := ⟨_, rfl⟩
            rw [← hej] at hs e5
            have j0 : (0 : Int) ≤ (j : Int) := by omega
            have j1 : (j : Int) < (n : Int) := by omega
            have k0 : (0 : Int) ≤ (k : Int) := by omega
            have k1 : (k : Int) < (n : Int) := by omega
            have u0 : (0 : Int) ≤ (u : Int) := by omega
            have u1 : (u : Int) < (L : Int) := by omega
            obtain ⟨o, ho⟩ : ∃ o, o = okB ls s k u := ⟨_, rfl⟩
            rw [← ho] at hs ⊢
            have HS := Lib.hid hs
            clear hc3 hen hej hs ho hbw hj hx
            cases o with
            | true =>
              go_wp2_with fail
              go_quiet (fail)
              have HBZ : Hid (Below wc.heap.size wc (wr.drewN nq)) := ⟨HBY.out.os, HBY.out.tape, HBY.out.output, HBY.out.size, HBY.out.block⟩
              clear y0 y1 c1 c3 e5
              go_wp2_with fail
              go_roundw
              case rel => exact ⟨u + 1, by go_num, by omega, by rw [HS.out]; rfl, HBZ.out⟩
              case measure => simp [intOf]; omega
            | false =>
              go_wp2_with fail
              go_quiet (fail)
              have HBZ : Hid (Below wc.heap.size wc (wr.drewN nq)) := ⟨HBY.out.os, HBY.out.tape, HBY.out.output, HBY.out.size, HBY.out.block⟩
              clear y0 y1 c1 c3 e5
              go_wp2_with fail
              go_roundw
              case rel => exact ⟨u + 1, by go_num, by omega, by rw [HS.out]; rfl, HBZ.out⟩
              case measure => simp [intOf]; omega
          · obtain rfl : u = L := by omega
            have hr := okB_rdy HI.out (i := k) (by rw [← HN.out]; exact hlt)
            rw [← HL.out] at hr
            rw [hr]
            have hs := rdyTo_succ s k
            have hl := rdyTo_len s k
            have HO3 := Lib.hid (ownsRow_ext HO2.out (HBY.out.mono (Nat.le_refl _)))
            have HB3 := Lib.hid hbw
            have HY3 := Lib.hid ((HBY.out.block _ (Array.getElem?_eq_some_iff.1 HBX2.out).1).trans HBX2.out)
            obtain ⟨rd, hrd⟩ : ∃ r, r = s.rdy k := ⟨_, rfl⟩
            rw [← hrd] at hs ⊢
            have HRD := Lib.hid hrd
            clear hr hrd hbw
            cases rd with
            | true =>
              rw [if_pos rfl] at hs
              have HS := Lib.hid hs
              have HO4 := Lib.hid (HO3.out.alloc (.cells #[.int .i64 (k : Int)] 3))
              have HR4 := Lib.hid (show Rdv (wr.alloc (.cells #[.int .i64 (k : Int)] 3)) (some ⟨wr.heap.size, 0, none⟩) 1 1 [.int .i64 (k : Int)] from ⟨rfl, fun _ => ⟨_, _, rfl, fun j u hj => by
                rcases j with _ | j
                · simp at hj; subst hj; rw [cell_of_row _ _ _ _ _ (0, 0) (heap_alloc_new wr _)]; rfl
                · simp at hj⟩⟩)
              have HB4 := Lib.hid (HB3.out.alloc HB3.out.size (.cells #[.int .i64 (k : Int)] 3))
              have HY4 := Lib.hid ((Below.heap_alloc wr (.cells #[.int .i64 (k : Int)] 3) _ (Array.getElem?_eq_some_iff.1 HY3.out).1).trans HY3.out)
              have hsz := HB3.out.size
              clear hs
              go_wp2_with (at_builtin; refine wpList_append_rowv elem38 rfl (.tmp 52) (.tmp 54) rfl (w.heap.size + 1) _ (rdyTo s k).length _ rfl HO4.out (some ⟨wr.heap.size, 0, none⟩) 1 1 [.int .i64 (k : Int)] rfl HR4.out (by intro u hu; simp at hu; subst hu; rfl) (fun h => by cases h) (by unfold maxLen; omega) (by omega) (by rw [World.size_alloc]; omega) ?_; intro v3 w3 hown3 hb3)
              go_roundw
              case rel =>
                refine ⟨k + 1, by go_num, by omega, ?_, (hb3.block _ (by omega)).trans HY4.out, HB4.out.trans (hb3.mono (by omega))⟩
                rw [HS.out, List.length_append]
                have e : valsZ (rdyTo s k ++ [(k : Int)]) = valsZ (rdyTo s k) ++ [.int .i64 (k : Int)] := by simp [valsZ]
                rw [e]
                exact hown3
              case measure => simp [intOf]; omega
            | false =>
              rw [if_neg (by decide), List.append_nil] at hs
              have HS := Lib.hid hs
              clear hs
              go_wp2_with fail
              go_roundw
              case rel => exact ⟨k + 1, by go_num, by omega, by rw [HS.out]; exact HO3.out, HY3.out, HB3.out⟩
              case measure => simp [intOf]; omega
    · obtain rfl : k = n := by omega
      obtain ⟨A1, c1, hv1, hnum, _, _⟩ := nums_own hown (rdyTo_fits s k (by omega))
      subst hv1
      have HLT := Lib.hid (show ∀ a, A1 = some a → w.heap.size ≤ a.block from fun a ha => by
        have := (hown.lt a.block (by rw [ha]; rfl)).1
        omega)
      have HNN := Lib.hid hnum
      have HBB := Lib.hid hbr
      have y0 := cell_of_row wr _ 0 _ 74 (0, 0) hbx
      simp only [List.getElem?_toArray, List.getElem?_cons_zero] at y0
      clear hnum hbr hown hbx
      go_wp2_with fail
      go_ret
      exact ⟨_, rfl, A1, c1, rfl, HNN.out, HLT.out, HBB.out⟩
end Go.Proofs.Ytgdkgoiagjjccaa
