/- graph.Least. -/
import Derived.Test.YtgdkgoiagjjccaaGLstE
import Derived.Test.YtgdkgoiagjjccaaGLev
import Derived.BigFrameIn
import Derived.BigGuardIn
import Derived.Sort.CutIn
namespace Go.Proofs.Ytgdkgoiagjjccaa
set_option maxRecDepth 100000
open Go.RowKit
attribute [local go_sem] Oper.semAt_some

def zS : Array Value := #[.slice none 0 0]
theorem info38 : (Try.prog.info? 38).map (fun i => (i.zero, i.size, i.bytes)) = some (some (.slice none 0 0), 1, 24) := by kernel_rfl
theorem make_rows (n : Nat) (hn : n ≤ 100000) (w : World) : (Instr.makeSlice 56 (.int .i64 (n : Int)) (.int .i64 (n : Int))).run Try.prog w = .ok (.slice (some ⟨w.heap.size, 0, none⟩) n n) (w.alloc (.cells (madeCells zS n) 38)) := by
  obtain ⟨i, hi, hz, hs, hb⟩ := info_parts info38
  have := run_make (P := Try.prog) w 56 38 i _ Try.underlying56 hi hz .i64 .i64 n n (by omega) (Int.le_refl _) (by rw [hb]; omega) (by omega)
  rw [hs, Int.toNat_natCast, Nat.mul_one] at this
  exact this
set_option maxHeartbeats 4000000 in
theorem least_in (A : Option Addr) (n c : Nat) (ls : List (List Int)) (w : World) (h : Rws w A n ls) (hg : GoodL ls) (hn : n ≤ 10000) :
    CallsIn Fence.wide 11 Try.prog 38 #[.slice A n c] w fun e w' => e = .returned (.slice (some ⟨w.heap.size + 3, 0, none⟩) n n) ∧ ∃ ra rc, CM w (leastL ls) ra rc (w.heap.size + 3) n w' := by
  have HH := Lib.hid h
  have HG := Lib.hid hg
  have HGD := Lib.hid (fun w' (hb : Below w.heap.size w w') => (by have C := goodg_any A n c ls w' (h.below hb); rw [decide_eq_true hg] at C; exact C))
  clear h hg
  refine callsIn_of_wp_marks Try.func38 rfl trivial ?_ rfl
  simp only [Try.ntmps38, List.size_toArray, List.length_cons, List.length_nil, Nat.reduceAdd, Nat.reduceSub, Array.replicate_succ, Array.replicate_zero, List.push_toArray, List.append_toArray, List.nil_append, List.cons_append]
  gi_wp2_with fail
  refine ⟨trivial, ?_⟩
  refine (callsIn_wide.2 (HGD.out _ ((Below.refl _ w).alloc (Nat.le_refl _) _))).mono ?_
  rintro e w' ⟨rfl, rfl⟩
  have mi := make_ints n (by omega)
  have ms := make_rows n (by omega)
  gi_wp2_with fail
  refine wpIn_loop (fun a wr => ∃ (k : Nat) (ds : List Nat) (f : Nat → Int) (ra : Nat → Option Addr) (rc : Nat → Nat) (R : Nat → List Int) (u5 u6 u7 u8 u21 u22 u23 u24 u25 u26 u27 u28 u29 u30 u31 u32 u33 u34 u35 u36 u37 u38 u39 u40 u41 u42 u43 u44 u45 u46 u47 u48 u49 u50 u51 u52 u53 u54 u55 u56 u57 u58 u59 u60 u61 u62 u63 u64 : Value), a = { tmps := #[.slice A n c, .pointer (some ⟨w.heap.size, 0, none⟩), .slice none 0 0, .pointer (some ⟨w.heap.size + 1 + 1, 0, none⟩), .pointer (some ⟨w.heap.size + 1 + 1 + 1 + 1, 0, none⟩), u5, u6, u7, u8, .slice A n c, .bool true, .bool false, .slice A n c, .int .i64 (n : Int), .slice (some ⟨w.heap.size + 1, 0, none⟩) n n, .slice A n c, .int .i64 (n : Int), .slice (some ⟨w.heap.size + 1 + 1 + 1, 0, none⟩) n n, .slice A n c, .int .i64 (n : Int), .int .i64 (k : Int), u21, u22, u23, u24, u25, u26, u27, u28, u29, u30, u31, u32, u33, u34, u35, u36, u37, u38, u39, u40, u41, u42, u43, u44, u45, u46, u47, u48, u49, u50, u51, u52, u53, u54, u55, u56, u57, u58, u59, u60, u61, u62, u63, u64], defers := marks ds } ∧ k ≤ n ∧ LO w A n c ls k ds f ra rc R wr) (fun a _ => n - (intOf (a.tmps.getD 20 undef)).toNat) ?start ?round
  case start =>
    refine ⟨0, [], fun _ => 0, fun _ => none, fun _ => 0, fun _ => [], _, _, _, _, _, _, _, _, _, _, _, _, _, _, _, _, _, _, _, _, _, _, _, _, _, _, _, _, _, _, _, _, _, _, _, _, _, _, _, _, _, _, _, _, _, _, _, _, rfl, by omega, ?_⟩
    exact lst_start w A n c ls
  case round =>
    rintro a wr ⟨k, ds, f, ra, rc, R, u5, u6, u7, u8, u21, u22, u23, u24, u25, u26, u27, u28, u29, u30, u31, u32, u33, u34, u35, u36, u37, u38, u39, u40, u41, u42, u43, u44, u45, u46, u47, u48, u49, u50, u51, u52, u53, u54, u55, u56, u57, u58, u59, u60, u61, u62, u63, u64, rfl, hk, hLO⟩
    clear mi ms
    by_cases hlt : k < n
    · have HN0 := Lib.hid (show ∀ wx, Below w.heap.size w wx → ∃ b2 off2, A = some ⟨b2, off2, none⟩ ∧ ∃ A' c', wx.cell? ⟨b2, off2 + k, none⟩ = some (.slice A' (ls.getD k []).length c') ∧ (0 < (ls.getD k []).length → ∀ b o, A' = some ⟨b, o, none⟩ → b < w.heap.size) ∧ ∀ wy, Below w.heap.size w wy → Nums wy A' (ls.getD k []).length (ls.getD k []) from fun wx hx => by
        obtain ⟨b2, off2, e', hrow'⟩ := HH.out.2.2 (by omega)
        obtain ⟨A', c', q1, q2, q3⟩ := hrow' k hlt
        refine ⟨b2, off2, e', A', c', (stays_w hx _ (World.block_lt_of_cell? _ _ q1)).trans q1, fun h0 b o e2 => ?_, fun wy hy => q2.ext (stays_w hy)⟩
        obtain ⟨b3, o3, e3, h3⟩ := q2.2.2 h0
        rw [e2] at e3
        injection e3 with e3
        injection e3 with e3 _
        subst e3
        exact World.block_lt_of_cell? _ _ (h3 0 h0))
      obtain ⟨l, hl⟩ : ∃ l, l = ls.getD k [] := ⟨_, rfl⟩
      rw [← hl] at HN0
      obtain ⟨b2, off2, rfl, A', c', hc1, hlow, HN⟩ := HN0.out wr hLO.ls'.nums.below
      have HN := Lib.hid HN
      have HEQ := Lib.hid hl
      obtain ⟨L, hL⟩ : ∃ L, L = l.length := ⟨_, rfl⟩
      rw [← hL] at hc1 hlow HN
      have HL := Lib.hid hL
      have hLk : L ≤ n := by
        have := row_len HG.out k
        rw [hL, hl]
        omega
      have HLI := Lib.hid (LI.start hLO HG.out A' L c' (by rw [hL, hl]))
      have hzr := hLO.ls'.size
      have HLOW := Lib.hid hlow
      clear hLO hlow hl hL HN0
      gi_wp2_with fail
      refine ⟨trivial, ?_⟩
      refine (callsIn_wide.2 (backward_any A' L c' _)).mono ?_
      rintro e w6 ⟨rfl, rfl⟩
      gi_wp2_with fail
      obtain ⟨w6, hw6⟩ : ∃ w6, w6 = ((wr.alloc (.cells #[.int .i64 (k : Int)] 3)).alloc (.cells #[.slice A' L c'] 38)).alloc (.cells #[.slice A' L c'] 38) := ⟨_, rfl⟩
      have hz6 : w6.heap.size = wr.heap.size + 3 := by rw [hw6]; simp
      rw [← hw6] at HLI ⊢
      clear hw6 hc1
      refine wp_range_hands (w0 := w6) (O := fun q => q < w.heap.size ∨ q = wr.heap.size + 2) (N := L) (M := fun _ _ _ _ => True) (gf := 88) (lb := #[.pointer (some ⟨wr.heap.size + 2, 0, none⟩)]) (enc := fun p _ => #[.int .i64 ((L : Int) - 1 - (p : Int)), .int .i64 (l.getD (L - 1 - p) 0)]) rfl (enters_of Try.func88 (by kernel_rfl) rfl)
        (back_hands (wr.heap.size + 2) A' L c' l _ w6 HLI.out.bbox (HN.out w6 HLI.out.ls'.nums.below) (by omega) (fun q hq => by rcases hq with hq | hq <;> omega) (.inr rfl) (fun b o h0 e => .inl (HLOW.out h0 b o e))) (Below.refl _ _) (fun q hq => by rcases hq with hq | hq <;> omega) (fun _ _ => rfl) (fun _ _ _ _ _ _ _ _ h _ _ => h)
        (fun p W => ∃ f ra rc R, LI w (some ⟨b2, off2, none⟩) n c ls k wr.heap.size A' L c' ds p p f ra rc R W) (fun _ _ _ => False) (fun p W W' ⟨f, ra, rc, R, h⟩ hb => ⟨f, ra, rc, R, h.ext hb⟩) (fun p W l o o' hl ⟨f, ra, rc, R, h⟩ ho hc => ⟨f, ra, rc, R, h.turn o' (by omega) ho hc⟩) (fun _ _ _ _ h _ => h.elim) (fun _ _ _ _ _ _ _ h _ _ => h.elim) ⟨_, _, _, _, HLI.out⟩ ?rnd ?done ?stop
      case stop => exact fun _ _ _ _ _ h => h.elim
      case rnd =>
        intro l0 p v W0 W W2 hp hi0 hi2 _ K hK
        obtain ⟨f2, ra2, rc2, R2, hI⟩ := hi2
        have hsz2 := hI.hi
        obtain ⟨j, hj⟩ : ∃ j : Nat, (j : Int) = l.getD (L - 1 - p) 0 := by
          have := HG.out.mem (i := k) (x := l.getD (L - 1 - p) 0) (by rw [← HEQ.out]; exact getD_mem (by have := HL.out; omega))
          exact ⟨(l.getD (L - 1 - p) 0).toNat, by omega⟩
        have hjk : j < k := by
          have := HG.out.mem (i := k) (x := l.getD (L - 1 - p) 0) (by rw [← HEQ.out]; exact getD_mem (by have := HL.out; omega))
          omega
        have HJ := Lib.hid (show (ls.getD k []).getD (L - 1 - p) 0 = (j : Int) by rw [← HEQ.out, hj])
        rw [← hj]
        have HI := Lib.hid hI
        have c3 : W2.cell? ⟨w.heap.size + 1 + 1, 0, none⟩ = some (.slice (some ⟨w.heap.size + 1, 0, none⟩) n n) := cell_of_row _ _ 0 _ 38 (0, 0) hI.ls'.rbox
        have c5 : W2.cell? ⟨wr.heap.size, 0, none⟩ = some (.int .i64 (k : Int)) := cell_of_row _ _ 0 _ 3 (0, 0) hI.ibox
        have cj := hI.ls'.nums.cells j (by omega)
        have hjn : j < n := by omega
        clear hi0 hI hj
        gi_wp2_with fail
        refine wpIn_normal (a1 := { tmps := #[.slice (some ⟨b2, off2, none⟩) n c, .pointer (some ⟨w.heap.size, 0, none⟩), .slice none 0 0, .pointer (some ⟨w.heap.size + 1 + 1, 0, none⟩), .pointer (some ⟨w.heap.size + 1 + 1 + 1 + 1, 0, none⟩), .pointer (some ⟨wr.heap.size, 0, none⟩), .pointer (some ⟨wr.heap.size + 1, 0, none⟩), u7, .int .i64 (j : Int), .slice (some ⟨b2, off2, none⟩) n c, .bool true, .bool false, .slice (some ⟨b2, off2, none⟩) n c, .int .i64 (n : Int), .slice (some ⟨w.heap.size + 1, 0, none⟩) n n, .slice (some ⟨b2, off2, none⟩) n c, .int .i64 (n : Int), .slice (some ⟨w.heap.size + 1 + 1 + 1, 0, none⟩) n n, .slice (some ⟨b2, off2, none⟩) n c, .int .i64 (n : Int), .int .i64 (k : Int), .bool true, .int .i64 (k : Int), .pointer (some ⟨b2, off2 + k, none⟩), .slice A' L c', .slice A' L c', .func (.func 88) #[] #[.pointer (some ⟨wr.heap.size + 1 + 1, 0, none⟩)], .int .i64 ((L : Int) - 1 - (p : Int)), .int .i64 (j : Int), .slice (some ⟨w.heap.size + 1, 0, none⟩) n n, .int .i64 (j : Int), .pointer (some ⟨w.heap.size + 1, j, none⟩), .int .i64 (f2 j), .int .i64 (k : Int), .bool (f2 j == (k : Int)), u35, u36, u37, u38, u39, u40, u41, u42, u43, u44, u45, u46, u47, u48, u49, u50, u51, u52, u53, u54, u55, u56, u57, u58, u59, u60, u61, u62, u63, u64], defers := [] }) (R := fun w' => Below W2.heap.size W2 w') ?ten ?_
        case ten =>
          refine roundIn_region_abs 5 65 [
            .is (.slice (some ⟨w.heap.size + 1, 0, none⟩) n n),
            .is (.int .i64 (j : Int)),
            .is (.pointer (some ⟨w.heap.size + 1, j, none⟩)),
            .is (.int .i64 (f2 j)),
            .is (.int .i64 (k : Int))]
            [29, 30, 31, 32, 33]
            [[], [], [0, 1], [2], []] (by kernel_rfl) (by kernel_rfl) not_out (by rfl) rfl rfl (by kernel_rfl) not_panic ?_ ?_
          · have hd : Below W2.heap.size W2 W2.drew := (Below.refl _ W2).drew
            refine ⟨?_, ?_, ?_, ?_, ?_, trivial⟩
            · intro W3 hw K hK
              have c3' := (stays_w (hd.trans hw) _ (World.block_lt_of_cell? _ _ c3)).trans c3
              go_simp
              exact hK _ _ rfl (Below.refl _ _)
            · intro W3 hw K hK
              go_simp
              exact hK _ _ rfl (Below.refl _ _)
            · intro W3 hw K hK
              go_simp
              exact hK _ _ rfl (Below.refl _ _)
            · intro W3 hw K hK
              have cj' := (stays_w (hd.trans hw) _ (World.block_lt_of_cell? _ _ cj)).trans cj
              go_simp
              exact hK _ _ rfl (Below.refl _ _)
            · intro W3 hw K hK
              have c5' := (stays_w (hd.trans hw) _ (World.block_lt_of_cell? _ _ c5)).trans c5
              go_simp
              exact hK _ _ rfl (Below.refl _ _)
          · intro W3 hw3
            simp only [Behind]
            simp only [List.drop, Act.put, List.setIfInBounds_toArray, List.set_cons_zero, List.set_cons_succ]
            have HW3 := Lib.hid (show Below W2.heap.size W2 W3 from (Below.refl _ W2).drew.trans hw3)
            clear hw3
            go_wp2_with fail
            exact HW3.out
        intro W3 hb3
        have hI3 := HI.out.ext hb3
        have hjl : (ls.getD k []).getD (L - 1 - p) 0 = (j : Int) := HJ.out
        have hLl : L = (ls.getD k []).length := by rw [HL.out, HEQ.out]
        by_cases hfk : f2 j = (k : Int)
        · have e1 : (f2 j == (k : Int)) = true := beq_iff_eq.2 hfk
          have HS := Lib.hid (hI3.skip HG.out hLl hp hjl hfk)
          clear hI3 hjl hLl
          gi_wp2_with fail
          exact ⟨others_of hb3, HI.out.keeps HS.out hb3.size, _, _, _, _, HS.out⟩
        have e1 : (f2 j == (k : Int)) = false := beq_eq_false_iff_ne.2 hfk
        obtain ⟨m, hm⟩ : ∃ m, m = (R2 k).length := ⟨_, rfl⟩
        have hmL : m ≤ p := by rw [hm, hI3.row]; exact selR_len _ _ _
        have hba : Below W3.heap.size W3 (W3.drew.alloc (.cells #[.int .i64 (j : Int)] 3)) := ((Below.refl _ W3).drew).alloc (Nat.le_refl _) _
        have hown := (hI3.ext hba).own
        rw [← hm] at hown
        obtain ⟨v1, Wb, hrun, hown1, hbl, hkeep⟩ := run_append_row_kept elem38 (W3.drew.alloc (.cells #[.int .i64 (j : Int)] 3)) (wr.heap.size + 3) 38 (.slice (ra2 k) m (rc2 k)) m (valsZ (R2 k)) hown ⟨W3.heap.size, 0, none⟩ 1 1 [.int .i64 (j : Int)] (rdv_one1 W3.drew _ _) (by decide) (one_int1 _) (by unfold maxLen; omega) (by omega) (by have := hI3.hi; rw [World.size_alloc]; show _ ≤ W3.heap.size + 1; omega)
        obtain ⟨a1, c1, rfl, _, _, _⟩ := rdv_own hown1
        have hpush := hI3.push HG.out hLl hp hjl hfk hlt hba (by rw [hm] at hown1; exact hown1) hbl (by rw [hm] at hkeep; exact hkeep)
        rw [← hm] at hpush
        have hcell : W3.cell? ⟨w.heap.size + 1 + 1 + 1, k, none⟩ = some (.slice (ra2 k) m (rc2 k)) := by rw [hm]; exact hI3.ls'.cells k hlt
        have hS3 : W3.cell? ⟨w.heap.size + 1 + 1 + 1 + 1, 0, none⟩ = some (.slice (some ⟨w.heap.size + 1 + 1 + 1, 0, none⟩) n n) ∧ W3.cell? ⟨wr.heap.size, 0, none⟩ = some (.int .i64 (k : Int)) := ⟨cell_of_row _ _ 0 _ 56 (0, 0) hI3.ls'.obox, cell_of_row _ _ 0 _ 3 (0, 0) hI3.ibox⟩
        have hba2 : Below (wr.heap.size + 3) W3 Wb := (hba.mono hI3.hi).trans hbl
        have kb : ∀ q, q < wr.heap.size + 3 → Wb.heap[q]? = W3.heap[q]? := hba2.block
        have hcb : Wb.cell? ⟨w.heap.size + 1 + 1 + 1, k, none⟩ = some (.slice (ra2 k) m (rc2 k)) := by rw [(cell_frozen (kb (w.heap.size + 1 + 1 + 1) (by omega))).1]; exact hcell
        have hfb : Wb.frozen? ⟨w.heap.size + 1 + 1 + 1, k, none⟩ = false := by rw [(cell_frozen (kb (w.heap.size + 1 + 1 + 1) (by omega))).2]; exact hI3.ls'.fr k
        have hSb : Wb.cell? ⟨w.heap.size + 1 + 1 + 1 + 1, 0, none⟩ = some (.slice (some ⟨w.heap.size + 1 + 1 + 1, 0, none⟩) n n) ∧ Wb.cell? ⟨wr.heap.size, 0, none⟩ = some (.int .i64 (k : Int)) := ⟨by rw [(cell_frozen (kb (w.heap.size + 1 + 1 + 1 + 1) (by omega))).1]; exact hS3.1, by rw [(cell_frozen (kb wr.heap.size (by omega))).1]; exact hS3.2⟩
        obtain ⟨W4, hW4⟩ : ∃ W4, W4 = Wb.setCell ⟨w.heap.size + 1 + 1 + 1, k, none⟩ (.slice a1 (m + 1) c1) := ⟨_, rfl⟩
        have hS4 : (Wb.setCell ⟨w.heap.size + 1 + 1 + 1, k, none⟩ (.slice a1 (m + 1) c1)).cell? ⟨w.heap.size + 1 + 1 + 1 + 1, 0, none⟩ = some (.slice (some ⟨w.heap.size + 1 + 1 + 1, 0, none⟩) n n) ∧ (Wb.setCell ⟨w.heap.size + 1 + 1 + 1, k, none⟩ (.slice a1 (m + 1) c1)).cell? ⟨wr.heap.size, 0, none⟩ = some (.int .i64 (k : Int)) := ⟨by rw [set_blk (by omega)]; exact hSb.1, by rw [set_blk (by omega)]; exact hSb.2⟩
        have hSa : (W3.drew.alloc (.cells #[.int .i64 (j : Int)] 3)).cell? ⟨w.heap.size + 1 + 1 + 1 + 1, 0, none⟩ = some (.slice (some ⟨w.heap.size + 1 + 1 + 1, 0, none⟩) n n) ∧ (W3.drew.alloc (.cells #[.int .i64 (j : Int)] 3)).cell? ⟨wr.heap.size, 0, none⟩ = some (.int .i64 (k : Int)) := ⟨(stays_w hba _ (World.block_lt_of_cell? _ _ hS3.1)).trans hS3.1, (stays_w hba _ (World.block_lt_of_cell? _ _ hS3.2)).trans hS3.2⟩
        have hca : (W3.drew.alloc (.cells #[.int .i64 (j : Int)] 3)).cell? ⟨w.heap.size + 1 + 1 + 1, k, none⟩ = some (.slice (ra2 k) m (rc2 k)) := (stays_w hba _ (World.block_lt_of_cell? _ _ hcell)).trans hcell
        have HRUN := Lib.hid hrun
        have HPU := Lib.hid (show LI w (some ⟨b2, off2, none⟩) n c ls k wr.heap.size A' L c' ds (p + 1) p f2 (upd ra2 k a1) (upd rc2 k c1) (upd R2 k (R2 k ++ [(j : Int)])) W4 by rw [hW4]; exact hpush.1)
        have HKO := Lib.hid (show KeepsOthers W3 W4 by rw [hW4]; exact hpush.2)
        have HB3 := Lib.hid hb3
        have HJL := Lib.hid hjl
        have HLL := Lib.hid hLl
        have HW4 := Lib.hid hW4
        have hm0 : m ≤ 10000 := by omega
        clear hI3 hjl hLl hm hmL hown hrun hown1 hkeep hpush kb hba hbl hba2 hW4 hb3 c3 c5 cj
        gi_wp2_with fail
        refine wpIn_normal (a1 := { tmps := #[.slice (some ⟨b2, off2, none⟩) n c, .pointer (some ⟨w.heap.size, 0, none⟩), .slice none 0 0, .pointer (some ⟨w.heap.size + 1 + 1, 0, none⟩), .pointer (some ⟨w.heap.size + 1 + 1 + 1 + 1, 0, none⟩), .pointer (some ⟨wr.heap.size, 0, none⟩), .pointer (some ⟨wr.heap.size + 1, 0, none⟩), u7, .int .i64 (j : Int), .slice (some ⟨b2, off2, none⟩) n c, .bool true, .bool false, .slice (some ⟨b2, off2, none⟩) n c, .int .i64 (n : Int), .slice (some ⟨w.heap.size + 1, 0, none⟩) n n, .slice (some ⟨b2, off2, none⟩) n c, .int .i64 (n : Int), .slice (some ⟨w.heap.size + 1 + 1 + 1, 0, none⟩) n n, .slice (some ⟨b2, off2, none⟩) n c, .int .i64 (n : Int), .int .i64 (k : Int), .bool true, .int .i64 (k : Int), .pointer (some ⟨b2, off2 + k, none⟩), .slice A' L c', .slice A' L c', .func (.func 88) #[] #[.pointer (some ⟨wr.heap.size + 1 + 1, 0, none⟩)], .int .i64 ((L : Int) - 1 - (p : Int)), .int .i64 (j : Int), .slice (some ⟨w.heap.size + 1, 0, none⟩) n n, .int .i64 (j : Int), .pointer (some ⟨w.heap.size + 1, j, none⟩), .int .i64 (f2 j), .int .i64 (k : Int), .bool false, .slice (some ⟨w.heap.size + 1 + 1 + 1, 0, none⟩) n n, .int .i64 (k : Int), .slice (some ⟨w.heap.size + 1 + 1 + 1, 0, none⟩) n n, .int .i64 (k : Int), .pointer (some ⟨w.heap.size + 1 + 1 + 1, k, none⟩), .slice (ra2 k) m (rc2 k), .int .i64 (j : Int), .slice (some ⟨W3.heap.size, 0, none⟩) 1 1, .slice a1 (m + 1) c1, .pointer (some ⟨w.heap.size + 1 + 1 + 1, k, none⟩), u45, u46, u47, u48, u49, u50, u51, u52, u53, u54, u55, u56, u57, u58, u59, u60, u61, u62, u63, u64], defers := [] }) (R := fun w' => w' = W4) ?elv ?_
        case elv =>
          rw [HW4.out]
          refine region_inRound (by kernel_rfl) (by kernel_rfl) not_out ?_
          have hS : (fun W : World => W.cell? ⟨w.heap.size + 1 + 1 + 1 + 1, 0, none⟩ = some (.slice (some ⟨w.heap.size + 1 + 1 + 1, 0, none⟩) n n) ∧ W.cell? ⟨wr.heap.size, 0, none⟩ = some (.int .i64 (k : Int))) W3.drew := hS3
          refine wpAny_of_held (S := fun W : World => W.cell? ⟨w.heap.size + 1 + 1 + 1 + 1, 0, none⟩ = some (.slice (some ⟨w.heap.size + 1 + 1 + 1, 0, none⟩) n n) ∧ W.cell? ⟨wr.heap.size, 0, none⟩ = some (.int .i64 (k : Int))) _ _ _ _ ?_
          refine wpAnyH_take (i := 0) (v := .slice (some ⟨w.heap.size + 1 + 1 + 1, 0, none⟩) n n) rfl (by kernel_rfl) (by kernel_rfl) (by kernel_rfl) (fun _ _ _ h => by cases h.1) (Or.inl ⟨by rfl, ?_⟩) hS ?_
          · intro W hW
            obtain ⟨s1, s2⟩ := hW
            go_simp
          simp only [Act.put, List.setIfInBounds_toArray]
          refine wpAnyH_take (i := 1) (v := .int .i64 (k : Int)) rfl (by kernel_rfl) (by kernel_rfl) (by kernel_rfl) (fun _ _ _ h => by cases h.1) (Or.inl ⟨by rfl, ?_⟩) hS ?_
          · intro W hW
            obtain ⟨s1, s2⟩ := hW
            go_simp
          simp only [Act.put]
          refine wpAnyH_take (i := 2) (v := .slice (some ⟨w.heap.size + 1 + 1 + 1, 0, none⟩) n n) rfl (by kernel_rfl) (by kernel_rfl) (by kernel_rfl) (fun _ _ _ h => by cases h.1) (Or.inl ⟨by rfl, ?_⟩) hS ?_
          · intro W hW
            obtain ⟨s1, s2⟩ := hW
            go_simp
          simp only [Act.put]
          refine wpAnyH_take (i := 3) (v := .int .i64 (k : Int)) rfl (by kernel_rfl) (by kernel_rfl) (by kernel_rfl) (fun _ _ _ h => by cases h.1) (Or.inl ⟨by rfl, ?_⟩) hS ?_
          · intro W hW
            obtain ⟨s1, s2⟩ := hW
            go_simp
          simp only [Act.put]
          refine wpAnyH_take (i := 4) (v := .pointer (some ⟨w.heap.size + 1 + 1 + 1, k, none⟩)) rfl (by kernel_rfl) (by kernel_rfl) (by kernel_rfl) (fun _ _ _ h => by cases h.1) (Or.inl ⟨by rfl, ?_⟩) hS ?_
          · intro W hW
            obtain ⟨s1, s2⟩ := hW
            go_simp
          simp only [Act.put]
          refine wpAnyH_take (i := 6) (v := .int .i64 (j : Int)) rfl (by kernel_rfl) (by kernel_rfl) (by kernel_rfl) (fun _ _ _ h => by cases h.1) (Or.inl ⟨by rfl, ?_⟩) hS ?_
          · intro W hW
            obtain ⟨s1, s2⟩ := hW
            go_simp
          simp only [Act.put]
          refine wpAnyH_ready (rs := [5, 7]) (by kernel_rfl) (by simp) (AllReadyH.cons rfl (fun K5 hK5 => ?_) (AllReadyH.cons rfl (fun K7 hK7 => ?_) AllReadyH.nil))
          · go_simp
            refine hK5.out _ _ hS (fun _ => ?_)
            try simp only [Act.put, List.setIfInBounds_toArray, List.set_cons_zero, List.set_cons_succ]
            refine wpAnyH_ready (rs := [7]) (by kernel_rfl) (by simp) (AllReadyH.cons rfl (fun K7 hK7 => ?_) AllReadyH.nil)
            go_simp
            refine hK7.out _ _ hSa (fun _ => ?_)
            try simp only [Act.put, List.setIfInBounds_toArray, List.set_cons_zero, List.set_cons_succ]
            refine wpAnyH_ready (rs := [8]) (by kernel_rfl) (by simp) (AllReadyH.cons rfl (fun K8 hK8 => ?_) AllReadyH.nil)
            refine step_append_run (by rfl) (.tmp 40) (.tmp 42) 38 rfl _ _ _ rfl rfl HRUN.out ?_
            refine hK8.out _ _ hSb (fun _ => ?_)
            try simp only [Act.put, List.setIfInBounds_toArray]
            refine wpAnyH_ready (rs := [9]) (by kernel_rfl) (by simp) (AllReadyH.cons rfl (fun K9 hK9 => ?_) AllReadyH.nil)
            go_simp
            refine hK9.out _ _ hSb (fun _ => ?_)
            try simp only [Act.put, List.setIfInBounds_toArray, List.set_cons_zero, List.set_cons_succ]
            refine wpAnyH_ready (rs := [10]) (by kernel_rfl) (by simp) (AllReadyH.cons rfl (fun K10 hK10 => ?_) AllReadyH.nil)
            go_simp
            refine hK10.out _ _ hS4 (fun _ => ?_)
            exact wpAnyH_done (by kernel_rfl) ⟨rfl, rfl, rfl⟩ _
          · go_simp
            refine hK7.out _ _ hSa (fun _ => ?_)
            try simp only [Act.put, List.setIfInBounds_toArray, List.set_cons_zero, List.set_cons_succ]
            obtain ⟨Wa, hWa⟩ : ∃ Wa, Wa = W3.drew.alloc (.cells #[.int .i64 (j : Int)] 3) := ⟨_, rfl⟩
            change wpAnyH _ _ _ _ _ _ _ _ (W3.drew.alloc (.cells #[.int .i64 (j : Int)] 3))
            rw [← hWa] at hca hSa HRUN ⊢
            clear hWa
            refine wpAnyH_ready (rs := [5]) (by kernel_rfl) (by simp) (AllReadyH.cons rfl (fun K5 hK5 => ?_) AllReadyH.nil)
            go_simp
            refine hK5.out _ _ hSa (fun _ => ?_)
            try simp only [Act.put, List.setIfInBounds_toArray, List.set_cons_zero, List.set_cons_succ]
            refine wpAnyH_ready (rs := [8]) (by kernel_rfl) (by simp) (AllReadyH.cons rfl (fun K8 hK8 => ?_) AllReadyH.nil)
            refine step_append_run (by rfl) (.tmp 40) (.tmp 42) 38 rfl _ _ _ rfl rfl HRUN.out ?_
            refine hK8.out _ _ hSb (fun _ => ?_)
            try simp only [Act.put, List.setIfInBounds_toArray]
            refine wpAnyH_ready (rs := [9]) (by kernel_rfl) (by simp) (AllReadyH.cons rfl (fun K9 hK9 => ?_) AllReadyH.nil)
            go_simp
            refine hK9.out _ _ hSb (fun _ => ?_)
            try simp only [Act.put, List.setIfInBounds_toArray, List.set_cons_zero, List.set_cons_succ]
            refine wpAnyH_ready (rs := [10]) (by kernel_rfl) (by simp) (AllReadyH.cons rfl (fun K10 hK10 => ?_) AllReadyH.nil)
            go_simp
            refine hK10.out _ _ hS4 (fun _ => ?_)
            exact wpAnyH_done (by kernel_rfl) ⟨rfl, rfl, rfl⟩ _
        intro w' hw'
        rw [hw']
        clear hw' w'
        have hI4 := HPU.out
        have hsz4 := hI4.hi
        obtain ⟨_, _, hnx⟩ := HN.out _ hI4.ls'.nums.below
        obtain ⟨bA, oA, rfl, hcA⟩ := hnx (by omega)
        have cA := hcA 0 (by omega)
        rw [Nat.add_zero] at cA
        have c6 := cell_of_row _ _ 0 _ 38 (0, 0) hI4.nbox
        have c6 : W4.cell? ⟨wr.heap.size + 1, 0, none⟩ = some (.slice (some ⟨bA, oA, none⟩) L c') := c6
        obtain ⟨z0, hz0⟩ : ∃ z0, z0 = l.getD 0 0 := ⟨_, rfl⟩
        rw [← hz0] at cA
        have HZ0 := Lib.hid (show (ls.getD k []).getD 0 0 = z0 by rw [hz0, HEQ.out])
        have hL0 : 0 < L := by omega
        have hW4s : W2.heap.size ≤ W4.heap.size := Nat.le_trans HB3.out.size HKO.out.size
        clear hcA hnx hI4 hz0 hcell hS3 hcb hfb hSb hS4 hSa hca
        by_cases hgt : z0 < (j : Int)
        · have c1b : W4.cell? ⟨w.heap.size, 0, none⟩ = some (.slice (some ⟨b2, off2, none⟩) n c) := cell_of_row _ _ 0 _ 56 (0, 0) HPU.out.ls'.lbox
          have c3b : W4.cell? ⟨w.heap.size + 1 + 1, 0, none⟩ = some (.slice (some ⟨w.heap.size + 1, 0, none⟩) n n) := cell_of_row _ _ 0 _ 38 (0, 0) HPU.out.ls'.rbox
          have c5b : W4.cell? ⟨wr.heap.size, 0, none⟩ = some (.int .i64 (k : Int)) := cell_of_row _ _ 0 _ 3 (0, 0) HPU.out.ibox
          gi_wp2_with fail
          refine wpIn_normal (a1 := { tmps := #[.slice (some ⟨b2, off2, none⟩) n c, .pointer (some ⟨w.heap.size, 0, none⟩), .slice none 0 0, .pointer (some ⟨w.heap.size + 1 + 1, 0, none⟩), .pointer (some ⟨w.heap.size + 1 + 1 + 1 + 1, 0, none⟩), .pointer (some ⟨wr.heap.size, 0, none⟩), .pointer (some ⟨wr.heap.size + 1, 0, none⟩), u7, .int .i64 (j : Int), .slice (some ⟨b2, off2, none⟩) n c, .bool true, .bool false, .slice (some ⟨b2, off2, none⟩) n c, .int .i64 (n : Int), .slice (some ⟨w.heap.size + 1, 0, none⟩) n n, .slice (some ⟨b2, off2, none⟩) n c, .int .i64 (n : Int), .slice (some ⟨w.heap.size + 1 + 1 + 1, 0, none⟩) n n, .slice (some ⟨b2, off2, none⟩) n c, .int .i64 (n : Int), .int .i64 (k : Int), .bool true, .int .i64 (k : Int), .pointer (some ⟨b2, off2 + k, none⟩), .slice (some ⟨bA, oA, none⟩) L c', .slice (some ⟨bA, oA, none⟩) L c', .func (.func 88) #[] #[.pointer (some ⟨wr.heap.size + 1 + 1, 0, none⟩)], .int .i64 ((L : Int) - 1 - (p : Int)), .int .i64 (j : Int), .slice (some ⟨w.heap.size + 1, 0, none⟩) n n, .int .i64 (j : Int), .pointer (some ⟨w.heap.size + 1, j, none⟩), .int .i64 (f2 j), .int .i64 (k : Int), .bool false, .slice (some ⟨w.heap.size + 1 + 1 + 1, 0, none⟩) n n, .int .i64 (k : Int), .slice (some ⟨w.heap.size + 1 + 1 + 1, 0, none⟩) n n, .int .i64 (k : Int), .pointer (some ⟨w.heap.size + 1 + 1 + 1, k, none⟩), .slice (ra2 k) m (rc2 k), .int .i64 (j : Int), .slice (some ⟨W3.heap.size, 0, none⟩) 1 1, .slice a1 (m + 1) c1, .pointer (some ⟨w.heap.size + 1 + 1 + 1, k, none⟩), .int .i64 (j : Int), .slice (some ⟨bA, oA, none⟩) L c', .pointer (some ⟨bA, oA, none⟩), .int .i64 z0, .bool true, .slice (some ⟨b2, off2, none⟩) n c, .slice (some ⟨w.heap.size + 1, 0, none⟩) n n, .int .i64 (j : Int), .int .i64 (k : Int), .slice (some ⟨bA, oA, none⟩) L c', .pointer (some ⟨bA, oA, none⟩), .int .i64 z0, .tuple #[], u58, u59, u60, u61, u62, u63, u64], defers := [] }) (R := fun w' => ∃ f', LI w (some ⟨b2, off2, none⟩) n c ls k wr.heap.size (some ⟨bA, oA, none⟩) L c' ds (p + 1) (p + 1) f' (upd ra2 k a1) (upd rc2 k c1) (upd R2 k (R2 k ++ [(j : Int)])) w' ∧ KeepsOthers W4 w') ?thir ?_
          case thir =>
            refine roundIn_region_abs 7 65 [
              .is (.slice (some ⟨b2, off2, none⟩) n c),
              .is (.slice (some ⟨w.heap.size + 1, 0, none⟩) n n),
              .is (.int .i64 (j : Int)),
              .is (.int .i64 (k : Int)),
              .is (.slice (some ⟨bA, oA, none⟩) L c'),
              .is (.pointer (some ⟨bA, oA, none⟩)),
              .is (.int .i64 z0)]
              [50, 51, 52, 53, 54, 55, 56]
              [[], [], [], [], [], [4], [5]] (by kernel_rfl) (by kernel_rfl) not_out (by rfl) rfl rfl (by kernel_rfl) not_panic ?_ ?_
            · have hd : Below W4.heap.size W4 W4.drew := (Below.refl _ W4).drew
              refine ⟨?_, ?_, ?_, ?_, ?_, ?_, ?_, trivial⟩
              · intro W5 hw K hK
                have c1' := (stays_w (hd.trans hw) _ (World.block_lt_of_cell? _ _ c1b)).trans c1b
                go_simp
                exact hK _ _ rfl (Below.refl _ _)
              · intro W5 hw K hK
                have c3' := (stays_w (hd.trans hw) _ (World.block_lt_of_cell? _ _ c3b)).trans c3b
                go_simp
                exact hK _ _ rfl (Below.refl _ _)
              · intro W5 hw K hK
                go_simp
                exact hK _ _ rfl (Below.refl _ _)
              · intro W5 hw K hK
                have c5' := (stays_w (hd.trans hw) _ (World.block_lt_of_cell? _ _ c5b)).trans c5b
                go_simp
                exact hK _ _ rfl (Below.refl _ _)
              · intro W5 hw K hK
                have c6' := (stays_w (hd.trans hw) _ (World.block_lt_of_cell? _ _ c6)).trans c6
                go_simp
                exact hK _ _ rfl (Below.refl _ _)
              · intro W5 hw K hK
                go_simp
                exact hK _ _ rfl (Below.refl _ _)
              · intro W5 hw K hK
                have cA' := (stays_w (hd.trans hw) _ (World.block_lt_of_cell? _ _ cA)).trans cA
                go_simp
                exact hK _ _ rfl (Below.refl _ _)
            · intro W5 hw5
              simp only [Behind]
              simp only [List.drop, Act.put, List.setIfInBounds_toArray, List.set_cons_zero, List.set_cons_succ]
              have hb5 : Below W4.heap.size W4 W5 := (Below.refl _ W4).drew.trans hw5
              have hI5 := HPU.out.ext hb5
              have HC := Lib.hid (reach_any (W0 := w) (some ⟨b2, off2, none⟩) c n ls j (k : Int) z0 HH.out (Nat.le_refl _) HG.out hI5.ls'.nums hjn hn (by have := hI5.ls'.size; omega) (by have := hI5.closed HG.out hL0; rw [HZ0.out] at this; exact this))
              have HI5 := Lib.hid hI5
              have HB5 := Lib.hid hb5
              clear hw5 hI5 hb5 c1b c3b c5b c6 cA
              go_wp2_with fail
              refine Calls.mono HC.out ?_
              rintro e w7 ⟨rfl, f', hr, hV, hO, hst⟩
              have hre := HI5.out.reached HG.out HLL.out hp HJL.out hlt (by rw [HZ0.out]; exact hr) hV hO hst
              have HRE := Lib.hid hre
              clear hr hV hO hst hre
              go_wp2_with fail
              exact ⟨⟨_, HRE.out.1⟩, (others_of HB5.out).trans HRE.out.2⟩
          rintro w7 ⟨f', hI7, hk7⟩
          have HI7 := Lib.hid hI7
          have HK7 := Lib.hid hk7
          clear hI7 hk7 c1b c3b c5b c6 cA
          gi_wp2_with fail
          have hkk := ((others_of HB3.out).trans HKO.out).trans HK7.out
          exact ⟨hkk, HI.out.keeps HI7.out hkk.size, _, _, _, _, HI7.out⟩
        · have HF := Lib.hid (HPU.out.first HG.out HLL.out hp HJL.out (by rw [HZ0.out]; exact hgt))
          gi_wp2_with fail
          have hkk := (others_of HB3.out).trans HKO.out
          exact ⟨hkk, HI.out.keeps HF.out hkk.size, _, _, _, _, HF.out⟩
      case done =>
        intro D W hi hD hK
        obtain ⟨f2, ra2, rc2, R2, hI⟩ := hi
        have HI := Lib.hid hI
        have HD := Lib.hid hK
        have hsz2 := hI.hi
        have ho := hI.ls'.obox
        have co : W.cell? ⟨w.heap.size + 1 + 1 + 1 + 1, 0, none⟩ = some (.slice (some ⟨w.heap.size + 1 + 1 + 1, 0, none⟩) n n) := cell_of_row _ _ 0 _ 56 (0, 0) ho
        have c5 : W.cell? ⟨wr.heap.size, 0, none⟩ = some (.int .i64 (k : Int)) := cell_of_row _ _ 0 _ 3 (0, 0) hI.ibox
        obtain ⟨m, hm⟩ : ∃ m, m = (R2 k).length := ⟨_, rfl⟩
        have cc : W.cell? ⟨w.heap.size + 1 + 1 + 1, k, none⟩ = some (.slice (ra2 k) m (rc2 k)) := by rw [hm]; exact hI.ls'.cells k hlt
        have HM := Lib.hid hm
        clear hI hK ho hm
        gi_wp2_with fail
        refine ⟨trivial, ?_⟩
        have hLl : L = (ls.getD k []).length := by rw [HL.out, HEQ.out]
        by_cases hm0 : m = 0
        · subst hm0
          refine (callsIn_wide.2 (reverse_none _ _ _)).mono ?_
          rintro e w8 ⟨rfl, rfl⟩
          have HDN := Lib.hid (HI.out.done0 hLl (List.eq_nil_of_length_eq_zero HM.out.symm) (by omega) HD.out)
          gi_wp2_with fail
          refine ⟨⟨k + 1, D :: ds, f2, ra2, rc2, R2, _, _, _, _, _, _, _, _, _, _, _, _, _, _, _, _, _, _, _, _, _, _, _, _, _, _, _, _, _, _, _, _, _, _, _, _, _, _, _, _, _, _, _, _, _, _, _, _, rfl, by omega, HDN.out⟩, ?_⟩
          simp [intOf]
          omega
        · have hft : ∀ x ∈ R2 k, Fits x := fun x hx => by
            rw [HI.out.least hLl] at hx
            have := HG.out.mem (leastRow_mem.1 (List.mem_reverse.1 hx)).1
            unfold Fits
            omega
          obtain ⟨g, hg, hgc⟩ := HI.out.toLV (by have := HM.out; omega) hft
          have hmn : m ≤ 10000 := by
            have h5 := HM.out
            have h6 := HI.out.row
            have h7 := selR_len ls k L
            rw [← h6] at h7
            omega
          have HGC := Lib.hid hgc
          have HGG := Lib.hid hg
          rw [hg]
          rw [← HM.out] at hgc
          refine (callsIn_wide.2 (reverse_any hgc _ hmn)).mono ?_
          rintro e w8 ⟨rfl, hV, hO⟩
          have HDN := Lib.hid (HI.out.done hLl HGG.out (by have := HM.out; omega) HGC.out (by rw [← HM.out]; exact hV) hO (by omega) HD.out)
          clear hV hO hgc hg hft
          gi_wp2_with fail
          refine ⟨⟨k + 1, D :: ds, f2, ra2, rc2, upd R2 k (leastRow ls k), _, _, _, _, _, _, _, _, _, _, _, _, _, _, _, _, _, _, _, _, _, _, _, _, _, _, _, _, _, _, _, _, _, _, _, _, _, _, _, _, _, _, _, _, _, _, _, _, rfl, by omega, HDN.out⟩, ?_⟩
          simp [intOf]
          omega
    · obtain rfl : k = n := by omega
      have ho := hLO.ls'.obox
      have HLO := Lib.hid hLO
      have co : wr.cell? ⟨w.heap.size + 1 + 1 + 1 + 1, 0, none⟩ = some (.slice (some ⟨w.heap.size + 3, 0, none⟩) k k) := cell_of_row _ _ 0 _ 56 (0, 0) ho
      clear hLO ho
      gi_wp2_with fail
      exact leaves_marks (b := w.heap.size + 5) (fun W => by simp [results, Try.results38, go_sem]) ds wr HLO.out.offs ⟨rfl, ra, rc, HLO.out.done HH.out.1⟩
theorem least_ok (A : Option Addr) (n c : Nat) (ls : List (List Int)) (w : World) (h : Rws w A n ls) (hg : GoodL ls) (hn : n ≤ 10000) :
    Calls Try.prog 38 #[.slice A n c] w fun e w' => e = .returned (.slice (some ⟨w.heap.size + 3, 0, none⟩) n n) ∧ ∃ ra rc, CM w (leastL ls) ra rc (w.heap.size + 3) n w' :=
  callsIn_wide.1 (least_in A n c ls w h hg hn)
theorem least_form (A : Option Addr) (n c : Nat) (ls : List (List Int)) (w : World) (h : Rws w A n ls) (hbad : ¬ GoodL ls) :
    Calls Try.prog 38 #[.slice A n c] w fun e w' => e = .returned (.slice none 0 0) ∧ Below w.heap.size w w' := by
  have HGD := Lib.hid (fun w' (hb : Below w.heap.size w w') => (by have C := goodg_any A n c ls w' (h.below hb); rw [decide_eq_false hbad] at C; exact C))
  have HB := Lib.hid ((Below.refl _ w).alloc (Nat.le_refl _) (.cells #[.slice A n c] 56))
  clear h hbad
  refine callsIn_wide.1 (show CallsIn Fence.wide 11 Try.prog 38 #[.slice A n c] w _ from ?_)
  refine callsIn_of_wp_marks Try.func38 rfl trivial ?_ rfl
  simp only [Try.ntmps38, List.size_toArray, List.length_cons, List.length_nil, Nat.reduceAdd, Nat.reduceSub, Array.replicate_succ, Array.replicate_zero, List.push_toArray, List.append_toArray, List.nil_append, List.cons_append]
  gi_wp2_with fail
  refine ⟨trivial, ?_⟩
  refine (callsIn_wide.2 (HGD.out _ HB.out)).mono ?_
  rintro e w' ⟨rfl, rfl⟩
  gi_wp2_with fail
  exact ⟨_, by simp [results, Try.results38, go_sem], rfl, HB.out⟩
end Go.Proofs.Ytgdkgoiagjjccaa
