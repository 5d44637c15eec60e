/- The document's Set, Get; the same rows. -/
import Derived.Test.YtdbckolndaodeaaTRef
import Derived.Deep.QuietTactic
import Derived.BigQuiet
namespace Go.Proofs.Ytdbckolndaodeaa
set_option maxRecDepth 100000
open Go.RowKit

theorem setR_cons (x y : Ix) (dn : Bool) (l : List Ix) : setR x dn (y :: l) = (if !dn && decide (x.k ≤ y.k) then [x] else []) ++ ((if y.k = x.k then [] else [y]) ++ setR x (dn || decide (x.k ≤ y.k)) l) := rfl
theorem setR_len (x : Ix) : ∀ (l : List Ix) (dn : Bool), (setR x dn l).length ≤ l.length + 1
  | [], dn => by cases dn <;> simp [setR]
  | y :: l, dn => by
    rw [setR_cons]
    cases dn with
    | true =>
      have h1 := setR_len' x l
      simp only [List.length_append]
      rw [show (true || decide (x.k ≤ y.k)) = true from rfl]
      split <;> split <;> simp at * <;> omega
    | false =>
      by_cases hp : x.k ≤ y.k
      · have h1 := setR_len' x l
        rw [decide_eq_true hp]
        simp only [List.length_append]
        split <;> split <;> simp at * <;> omega
      · have h1 := setR_len x l false
        rw [decide_eq_false hp]
        simp only [List.length_append]
        split <;> split <;> simp at * <;> omega
where setR_len' (x : Ix) : ∀ (l : List Ix), (setR x true l).length ≤ l.length
  | [] => by simp [setR]
  | y :: l => by
    rw [setR_cons]
    have h1 := setR_len' x l
    simp only [List.length_append]
    rw [show (true || decide (x.k ≤ y.k)) = true from rfl]
    split <;> split <;> simp at * <;> omega
theorem own_low {w : World} {B B' e size n : Nat} {v : Value} {xs : List Value} (h : w.ownsRow B e size v n xs) (hB : B' ≤ B) : w.ownsRow B' e size v n xs := by
  refine ⟨h.1, ?_⟩
  rcases h.2 with h0 | ⟨g, c, cur, e, h1, h2⟩
  · exact .inl h0
  · exact .inr ⟨g, c, cur, e, Nat.le_trans hB h1, h2⟩
theorem app_box {w wr w' : World} {n B s : Nat} {v : Value} {xs : List Value} {o ob : Obj} {e k : Nat} (hb : Below w.heap.size w wr) (ho : wr.ownsRow B e k v n xs) (hg : (wr.alloc o).grownBy w' v.ownBlock) (hs : s < B) (hx : wr.heap[s]? = some ob) (hB : w.heap.size ≤ B := by omega) : Below w.heap.size w w' ∧ w'.heap[s]? = some ob := by
  have h1 := hb.alloc hb.size o
  have h2 : Below wr.heap.size wr (wr.alloc o) := (Below.refl _ _).alloc (Nat.le_refl _) o
  have hl := (Array.getElem?_eq_some_iff.1 hx).1
  refine ⟨⟨hg.os.trans h1.os, hg.tape.trans h1.tape, hg.output.trans h1.output, Nat.le_trans h1.size hg.size, fun k hk => (hg.block k (Nat.lt_of_lt_of_le hk h1.size) (fun e => by have := own_ge ho e.symm; omega)).trans (h1.block k hk)⟩, ?_⟩
  exact (hg.block s (Nat.lt_of_lt_of_le hl h2.size) (fun e => by have := own_ge ho e.symm; omega)).trans ((h2.block s hl).trans hx)
set_option maxHeartbeats 16000000 in
theorem refSet_any {w : World} {A : Option Addr} {c : Nat} {l : List Ix} (h : Ris w A l) (hl : l.length ≤ 90000) (hu : Up l) (x : Ix) : Calls Try.prog 25 #[.slice A l.length c, .int .i64 x.k, .agg #[.int .i64 x.c.v, .int .i64 x.c.s, .bool x.c.dead]] w fun e w' => ∃ v, e = .returned v ∧ Rio w' w.heap.size v (ins x l) ∧ Below w.heap.size w w' := by
  have HH := Lib.hid h
  have HL := Lib.hid hl
  obtain ⟨RES, hres⟩ : ∃ RES, RES = ins x l := ⟨_, rfl⟩
  have hrs0 : [] ++ setR x false (l.drop 0) = RES := by rw [hres]; exact setR_spec x l hu
  have hrl : RES.length ≤ l.length + 1 := by rw [← hrs0]; exact setR_len x l false
  rw [← hres]
  have HRL := Lib.hid (show RES.length ≤ 100000 from by omega)
  have HRS := Lib.hid hrs0
  obtain ⟨n, hn⟩ : ∃ n, n = l.length := ⟨_, rfl⟩
  have HN := Lib.hid hn
  rw [← hn]
  obtain ⟨W1, hW1⟩ : ∃ W1, W1 = w.alloc (.cells #[.int .i64 x.c.v, .int .i64 x.c.s, .bool x.c.dead] 29) := ⟨_, rfl⟩
  have HB1 : Hid (Below w.heap.size w W1) := Lib.hid (by rw [hW1]; exact (Below.refl _ w).alloc (Nat.le_refl _) _)
  have HX1 : Hid (W1.heap[w.heap.size]? = some (.cells #[.int .i64 x.c.v, .int .i64 x.c.s, .bool x.c.dead] 29 (0, 0))) := Lib.hid (by rw [hW1]; exact heap_alloc_new w _)
  have HW := Lib.hid hW1
  obtain ⟨s, hs⟩ : ∃ s, s = w.heap.size := ⟨_, rfl⟩
  have HS := Lib.hid hs
  clear h hl hres hrl hrs0 hn hu hW1
  go_enter Try.func25, Try.ntmps25
  go_wp2_with fail
  rw [← HW.out, ← hs]
  clear hs
  go_loopw [7, 8, 9, 10, 11, 12, 13, 14, 15, 16, 17, 18, 19, 20, 21, 22, 23, 24, 25, 26, 27, 28, 29, 30, 31, 32, 33, 34, 35, 36, 37, 38, 39, 40, 41, 42, 43, 44, 45, 46] (fun v9 dn ix _ _ _ _ _ _ _ _ _ _ _ _ _ _ _ _ _ _ _ _ _ _ _ _ _ _ _ _ _ _ _ _ _ _ _ _ _ wr => ∃ (z : Nat) (O : List Ix) (dd : Bool), ix = .int .i64 (z : Int) ∧ dn = .bool dd ∧ z ≤ n ∧ O ++ setR x dd (l.drop z) = RES ∧ Rio wr (w.heap.size + 1) v9 O ∧ wr.heap[s]? = some (.cells #[.int .i64 x.c.v, .int .i64 x.c.s, .bool x.c.dead] 29 (0, 0)) ∧ Below w.heap.size w wr) (fun v9 dn ix _ _ _ _ _ _ _ _ _ _ _ _ _ _ _ _ _ _ _ _ _ _ _ _ _ _ _ _ _ _ _ _ _ _ _ _ _ _ => n - (intOf ix).toNat)
  case atStart => exact ⟨0, [], false, rfl, rfl, Nat.zero_le _, HRS.out, World.ownsRow_nil _ _ _ _, by rw [HS.out]; exact HX1.out, HB1.out⟩
  case round =>
    obtain ⟨z, O, dd, rfl, rfl, hz, he, ho, hxb, hb⟩ := hrel
    obtain ⟨A9, c9, rfl⟩ := own_form ho
    obtain ⟨n9, hn9⟩ : ∃ n9, n9 = O.length := ⟨_, rfl⟩
    have HOW0 := Lib.hid ho
    rw [← hn9]
    have HE := Lib.hid he
    have HBW := Lib.hid hb
    have HOW : Hid (∀ o, (wr.alloc o).ownsRow (w.heap.size + 1) 65 4 (.slice A9 n9 c9) n9 (rowV RI O)) := Lib.hid (fun o => by rw [hn9]; exact Rio.below ho ((Below.refl _ _).alloc (Nat.le_refl _) o))
    have hsw := (Array.getElem?_eq_some_iff.1 hxb).1
    have HBB : Hid (∀ o, w.heap.size + 1 ≤ (wr.alloc o).heap.size) := Lib.hid (fun o => Nat.le_trans (show w.heap.size + 1 ≤ wr.heap.size by rw [HS.out] at hsw; omega) ((Below.refl _ wr).alloc (Nat.le_refl _) o).size)
    have HN9 := Lib.hid hn9
    have HBN := Lib.hid (show n9 ≤ 100000 from by have h1 := HRL.out; rw [← he, List.length_append, ← hn9] at h1; omega)
    have HXB := Lib.hid hxb
    have b0 : wr.cell? ⟨s, 0, none⟩ = some (.int .i64 x.c.v) := by rw [cell_of_row _ _ 0 _ _ _ hxb]; rfl
    have b1 : wr.cell? ⟨s, 1, none⟩ = some (.int .i64 x.c.s) := by rw [cell_of_row _ _ 1 _ _ _ hxb]; rfl
    have b2 : wr.cell? ⟨s, 2, none⟩ = some (.bool x.c.dead) := by rw [cell_of_row _ _ 2 _ _ _ hxb]; rfl
    clear he ho hn9 hxb
    by_cases hlt : z < n
    · have hzl : z < l.length := by rw [← HN.out]; exact hlt
      obtain ⟨b, off, rfl, hcl⟩ := Ris.cell (RowAt.below HH.out hb) (by omega)
      obtain ⟨x0, x1, x2, x3⟩ := hcl z hzl
      obtain ⟨y, hy⟩ : ∃ y, y = l[z] := ⟨_, rfl⟩
      have hda : l.drop z = y :: l.drop (z + 1) := drop_at (by rw [hy]; exact List.getElem?_eq_getElem hzl)
      rw [← hy] at x0 x1 x2 x3
      have HDA := Lib.hid hda
      have hnb : n ≤ 100000 := by rw [HN.out]; have := HL.out; omega
      clear hcl hy hzl hda hb hsw
      cases dd with
      | true =>
        have HET : Hid (O ++ ((if y.k = x.k then [] else [y]) ++ setR x true (l.drop (z + 1))) = RES) := Lib.hid (by rw [← HE.out, HDA.out, setR_cons]; simp)
        clear HE
        have HE := Lib.hid HET.out
        by_cases hk : y.k = x.k
        · have d1 : (y.k != x.k) = false := by rw [hk]; simp
          have HKK := Lib.hid hk
          clear hk
          go_wp2_with fail
          go_roundw
          case rel =>
            refine ⟨z + 1, O, true, by go_num, rfl, by omega, ?_, by rw [HN9.out]; exact HOW0.out, HXB.out, HBW.out⟩
            have h9 := HE.out
            rw [if_pos HKK.out] at h9
            exact h9
          case measure => simp [intOf]; omega
        · have d1 : (y.k != x.k) = true := by simp [hk]
          have HKK := Lib.hid hk
          clear hk
          go_wp2_with (at_builtin; refine wpList_append_rowg elemRI rfl (.tmp 40) (.tmp 45) rfl (w.heap.size + 1) (.slice A9 n9 c9) n9 (rowV RI O) rfl (HOW.out _) (some ⟨wr.heap.size, 0, none⟩) 1 1 (RI y) rfl (rdv_freshR wr y 65) (ri1 y) (fun h => by cases h) (by have := HBN.out; unfold maxLen; omega) (by have := HBN.out; omega) (HBB.out _) ?_; intro v' w' ho hg hq; obtain ⟨A8, c8, rfl⟩ := own_form ho; have HO8 := Lib.hid ho; have HP8 := Lib.hid (app_box HBW.out HOW0.out (by rw [← HN9.out]; exact hg) (by rw [HS.out]; exact Nat.lt_succ_self _) HXB.out); clear ho hg hq)
          go_roundw
          case rel =>
            refine ⟨z + 1, O ++ [y], true, by go_num, rfl, by omega, ?_, ?_, HP8.out.2, HP8.out.1⟩
            · have h9 := HE.out
              rw [if_neg (show ¬ y.k = x.k from fun e => by have := HKK.out; exact absurd e this)] at h9
              rw [← h9]; simp
            · show World.ownsRow _ _ _ _ _ (O ++ [y]).length _
              rw [List.length_append, ← HN9.out, rowV_append]
              simpa [rowV] using HO8.out
          case measure => simp [intOf]; omega
      | false =>
        obtain ⟨pp, hpp⟩ : ∃ pp, decide (x.k ≤ y.k) = pp := ⟨_, rfl⟩
        have HPP := Lib.hid hpp
        have HE2 : Hid (O ++ ((if pp then [x] else []) ++ ((if y.k = x.k then [] else [y]) ++ setR x pp (l.drop (z + 1)))) = RES) := Lib.hid (by rw [← HE.out, HDA.out, setR_cons, hpp]; simp)
        go_upto_if 26 with fail
        go_cut [7, 8] from 27 to 32 (fun v2 d2 wx => ∃ O2, d2 = .bool pp ∧ O2 ++ ((if y.k = x.k then [] else [y]) ++ setR x pp (l.drop (z + 1))) = RES ∧ Rio wx (w.heap.size + 1) v2 O2 ∧ wx.heap[s]? = some (.cells #[.int .i64 x.c.v, .int .i64 x.c.s, .bool x.c.dead] 29 (0, 0)) ∧ Below w.heap.size w wx)
        case first =>
          cases pp with
          | false =>
            go_wp2_with fail
            go_meet
            exact ⟨O, rfl, by have := HE2.out; simpa using this, by rw [HN9.out]; exact HOW0.out, HXB.out, HBW.out⟩
          | true =>
            go_wp2_with (at_builtin; refine wpList_append_rowg elemRI rfl (.tmp 27) (.tmp 31) rfl (w.heap.size + 1) (.slice A9 n9 c9) n9 (rowV RI O) rfl (HOW.out _) (some ⟨wr.heap.size, 0, none⟩) 1 1 (RI x) rfl (rdv_freshR wr x 65) (ri1 x) (fun h => by cases h) (by have := HBN.out; unfold maxLen; omega) (by have := HBN.out; omega) (HBB.out _) ?_; intro v' w' ho hg hq; obtain ⟨A8, c8, rfl⟩ := own_form ho; have HO8 := Lib.hid ho; have HP8 := Lib.hid (app_box HBW.out HOW0.out (by rw [← HN9.out]; exact hg) (by rw [HS.out]; exact Nat.lt_succ_self _) HXB.out); clear ho hg hq)
            go_meet
            refine ⟨O ++ [x], rfl, ?_, ?_, HP8.out.2, HP8.out.1⟩
            · have := HE2.out
              rw [← this]; simp
            · show World.ownsRow _ _ _ _ _ (O ++ [x]).length _
              rw [List.length_append, ← HN9.out, rowV_append]
              simpa [rowV] using HO8.out
        case rest =>
          clear HE HE2 HOW HBB HOW0 HBN HN9 HBW HXB hpp b0 b1 b2 x0 x1 x2 x3
          obtain ⟨O2, rfl, he, ho, hxb, hb⟩ := hcut
          rename World => wr
          obtain ⟨A9, c9, rfl⟩ := own_form ho
          obtain ⟨n9, hn9⟩ : ∃ n9, n9 = O2.length := ⟨_, rfl⟩
          have HOW0 := Lib.hid ho
          rw [← hn9]
          have HE := Lib.hid he
          have HBW := Lib.hid hb
          have HOW : Hid (∀ o, (wr.alloc o).ownsRow (w.heap.size + 1) 65 4 (.slice A9 n9 c9) n9 (rowV RI O2)) := Lib.hid (fun o => by rw [hn9]; exact Rio.below ho ((Below.refl _ _).alloc (Nat.le_refl _) o))
          have hsw := (Array.getElem?_eq_some_iff.1 hxb).1
          have HBB : Hid (∀ o, w.heap.size + 1 ≤ (wr.alloc o).heap.size) := Lib.hid (fun o => Nat.le_trans (show w.heap.size + 1 ≤ wr.heap.size by rw [HS.out] at hsw; omega) ((Below.refl _ wr).alloc (Nat.le_refl _) o).size)
          have HN9 := Lib.hid hn9
          have HBN := Lib.hid (show n9 ≤ 100000 from by have h1 := HRL.out; rw [← he, List.length_append, ← hn9] at h1; omega)
          have HXB := Lib.hid hxb
          have hzl : z < l.length := by rw [← HN.out]; exact hlt
          obtain ⟨b5, off5, e5, hcl⟩ := Ris.cell (RowAt.below HH.out hb) (by omega)
          injection e5 with e5
          injection e5 with e5 e6
          subst e5 e6
          obtain ⟨x0, x1, x2, x3⟩ := hcl z hzl
          have hy : l[z] = y := by
            have := HDA.out
            rw [List.drop_eq_getElem_cons hzl] at this
            injection this
          rw [hy] at x0 x1 x2 x3
          obtain ⟨d7, hd7⟩ : ∃ d7, d7 = pp := ⟨_, rfl⟩
          rw [← hd7] at HE ⊢
          clear he ho hn9 hxb hb hsw hzl hcl hy hd7
          by_cases hk : y.k = x.k
          · have d1 : (y.k != x.k) = false := by rw [hk]; simp
            have HKK := Lib.hid hk
            clear hk
            go_wp2_with fail
            go_roundw
            case rel =>
              refine ⟨z + 1, O2, d7, by go_num, rfl, by omega, ?_, by rw [HN9.out]; exact HOW0.out, HXB.out, HBW.out⟩
              have h9 := HE.out
              rw [if_pos HKK.out] at h9
              exact h9
            case measure => simp [intOf]; omega
          · have d1 : (y.k != x.k) = true := by simp [hk]
            have HKK := Lib.hid hk
            clear hk
            go_wp2_with (at_builtin; refine wpList_append_rowg elemRI rfl (.tmp 40) (.tmp 45) rfl (w.heap.size + 1) (.slice A9 n9 c9) n9 (rowV RI O2) rfl (HOW.out _) (some ⟨wr.heap.size, 0, none⟩) 1 1 (RI y) rfl (rdv_freshR wr y 65) (ri1 y) (fun h => by cases h) (by have := HBN.out; unfold maxLen; omega) (by have := HBN.out; omega) (HBB.out _) ?_; intro v' w' ho hg hq; obtain ⟨A8, c8, rfl⟩ := own_form ho; have HO8 := Lib.hid ho; have HP8 := Lib.hid (app_box HBW.out HOW0.out (by rw [← HN9.out]; exact hg) (by rw [HS.out]; exact Nat.lt_succ_self _) HXB.out); clear ho hg hq)
            go_roundw
            case rel =>
              refine ⟨z + 1, O2 ++ [y], d7, by go_num, rfl, by omega, ?_, ?_, HP8.out.2, HP8.out.1⟩
              · have h9 := HE.out
                rw [if_neg (show ¬ y.k = x.k from fun e => by have := HKK.out; exact absurd e this)] at h9
                rw [← h9]; simp
              · show World.ownsRow _ _ _ _ _ (O2 ++ [y]).length _
                rw [List.length_append, ← HN9.out, rowV_append]
                simpa [rowV] using HO8.out
            case measure => simp [intOf]; omega
    · obtain rfl : z = n := by omega
      have HE3 : Hid (O ++ (if dd then [] else [x]) = RES) := Lib.hid (by
        have h9 := HE.out
        rw [List.drop_of_length_le (by rw [← HN.out]; exact Nat.le_refl _)] at h9
        exact h9)
      clear hb hsw
      cases dd with
      | true =>
        go_wp2_with fail
        go_ret
        have h8 : O = RES := by simpa using HE3.out
        refine ⟨_, rfl, ?_, HBW.out⟩
        rw [← h8]
        have := HOW0.out
        rw [← HN9.out] at this
        exact own_low this (Nat.le_succ _)
      | false =>
        go_wp2_with (at_builtin; refine wpList_append_rowg elemRI rfl (.tmp 49) (.tmp 53) rfl (w.heap.size + 1) (.slice A9 n9 c9) n9 (rowV RI O) rfl (HOW.out _) (some ⟨wr.heap.size, 0, none⟩) 1 1 (RI x) rfl (rdv_freshR wr x 65) (ri1 x) (fun h => by cases h) (by have := HBN.out; unfold maxLen; omega) (by have := HBN.out; omega) (HBB.out _) ?_; intro v' w' ho hg hq; obtain ⟨A8, c8, rfl⟩ := own_form ho; have HO8 := Lib.hid ho; have HP8 := Lib.hid (app_box HBW.out HOW0.out (by rw [← HN9.out]; exact hg) (by rw [HS.out]; exact Nat.lt_succ_self _) HXB.out); clear ho hg hq)
        go_ret
        have h8 : O ++ [x] = RES := by simpa using HE3.out
        refine ⟨_, rfl, ?_, HP8.out.1⟩
        rw [← h8]
        show World.ownsRow _ _ _ _ _ (O ++ [x]).length _
        rw [List.length_append, ← HN9.out, rowV_append]
        refine own_low ?_ (Nat.le_succ _)
        simpa [rowV] using HO8.out
end Go.Proofs.Ytdbckolndaodeaa
