/- The document's rows of items. -/
import Derived.Test.YtdbckolndaodeaaTAlive
namespace Go.Proofs.Ytdbckolndaodeaa
set_option maxRecDepth 100000
open Go.RowKit

def RI (x : Ix) : List Value := [.int .i64 x.k, .int .i64 x.c.v, .int .i64 x.c.s, .bool x.c.dead]
theorem RI.len (x : Ix) : (RI x).length = 4 := rfl
theorem elemRI : ElemT Try.prog 27 65 4 32 :=
  ⟨Try.underlying27, by kernel_rfl, by
    obtain ⟨i, hi, hz, h1, _⟩ := info_parts (show (Try.prog.info? 65).map (fun i => (i.zero, i.size, i.bytes)) = some (some (.agg #[.int .i64 0, .int .i64 0, .int .i64 0, .bool false]), 4, 32) by kernel_rfl)
    exact ⟨i, _, hi, hz, rfl⟩, by decide⟩
theorem ri1 (x : Ix) : ∀ u ∈ RI x, u.oneCell' = true := by
  intro u hu
  unfold RI at hu
  simp at hu
  rcases hu with rfl | rfl | rfl | rfl <;> rfl
theorem rdv_freshR (w : World) (x : Ix) (T : TypeId) : Rdv (w.alloc (.cells #[.int .i64 x.k, .int .i64 x.c.v, .int .i64 x.c.s, .bool x.c.dead] T)) (some ⟨w.heap.size, 0, none⟩) 1 4 (RI x) :=
  ⟨rfl, fun _ => ⟨w.heap.size, 0, rfl, fun j u hj => by
    rw [Nat.zero_add, cell_of_row _ w.heap.size j _ T (0, 0) (heap_alloc_new w _)]
    unfold RI at hj
    simpa using hj⟩⟩
abbrev Ris (w : World) (A : Option Addr) (l : List Ix) : Prop := RowAt RI 4 w A l.length l
theorem Ris.cell {w : World} {A : Option Addr} {l : List Ix} (h : Ris w A l) (hn : 0 < l.length) : ∃ b off, A = some ⟨b, off, none⟩ ∧ ∀ q (hq : q < l.length), w.cell? ⟨b, off + q * 4, none⟩ = some (.int .i64 l[q].k) ∧ w.cell? ⟨b, off + q * 4 + 1, none⟩ = some (.int .i64 l[q].c.v) ∧ w.cell? ⟨b, off + q * 4 + 2, none⟩ = some (.int .i64 l[q].c.s) ∧ w.cell? ⟨b, off + q * 4 + 3, none⟩ = some (.bool l[q].c.dead) := by
  obtain ⟨b, off, e, hc⟩ := RowAt.cells h RI.len hn
  exact ⟨b, off, e, fun q hq => ⟨hc q hq 0 _ (by omega) rfl, hc q hq 1 _ (by omega) rfl, hc q hq 2 _ (by omega) rfl, hc q hq 3 _ (by omega) rfl⟩⟩
/-- An own row of items, of blocks from B on. -/
abbrev Rio (w : World) (B : Nat) (v : Value) (l : List Ix) : Prop := w.ownsRow B 65 4 v l.length (rowV RI l)
theorem Rio.below {w w' : World} {B : Nat} {v : Value} {l : List Ix} (h : Rio w B v l) (hb : Below w.heap.size w w') : Rio w' B v l := own_same h fun q hq => by
  obtain ⟨_, e⟩ := own_at h hq
  exact hb.block q (Array.getElem?_eq_some_iff.1 e).1
theorem Rio.ris {w : World} {B : Nat} {A : Option Addr} {c n : Nat} {l : List Ix} (h : Rio w B (.slice A n c) l) (_ : n = l.length) : Ris w A l := by
  obtain ⟨A', c', e, hr, _⟩ := rdv_own h
  injection e with e _ _
  subst e
  exact ⟨rfl, hr⟩
theorem below_app {w wr w' : World} {n : Nat} {v : Value} {xs : List Value} {o : Obj} {e k : Nat} (hb : Below w.heap.size w wr) (ho : wr.ownsRow w.heap.size e k v n xs) (hg : (wr.alloc o).grownBy w' v.ownBlock) : Below w.heap.size w w' := by
  have h1 := hb.alloc hb.size o
  exact ⟨hg.os.trans h1.os, hg.tape.trans h1.tape, hg.output.trans h1.output, Nat.le_trans h1.size hg.size, fun k hk => (hg.block k (Nat.lt_of_lt_of_le hk h1.size) (fun e => by have := own_ge ho e.symm; omega)).trans (h1.block k hk)⟩
theorem del_cons_no {k : Int} {x : Ix} {l : List Ix} (h : x.k ≠ k) : del k (x :: l) = x :: del k l := by unfold del; rw [List.filter_cons_of_pos (by simp [h])]
theorem del_cons_yes {k : Int} {x : Ix} {l : List Ix} (h : x.k = k) : del k (x :: l) = del k l := by unfold del; rw [List.filter_cons_of_neg (by simp [h])]
theorem rng_cons_yes {lo hi : Int} {x : Ix} {l : List Ix} (h1 : lo ≤ x.k) (h2 : x.k ≤ hi) : rng lo hi (x :: l) = x :: rng lo hi l := by unfold rng; rw [List.filter_cons_of_pos (by simp [h1, h2])]
theorem rng_cons_no {lo hi : Int} {x : Ix} {l : List Ix} (h : ¬ (lo ≤ x.k ∧ x.k ≤ hi)) : rng lo hi (x :: l) = rng lo hi l := by
  unfold rng
  rw [List.filter_cons_of_neg (by simp; omega)]
set_option maxHeartbeats 8000000 in
theorem refDrop_any {w : World} {A : Option Addr} {c : Nat} {l : List Ix} (h : Ris w A l) (hl : l.length ≤ 100000) (k : Int) : Calls Try.prog 24 #[.slice A l.length c, .int .i64 k] w fun e w' => ∃ v, e = .returned v ∧ Rio w' w.heap.size v (del k l) ∧ Below w.heap.size w w' := by
  have HH := Lib.hid h
  have HL := Lib.hid hl
  obtain ⟨RES, hres⟩ : ∃ RES, RES = del k l := ⟨_, rfl⟩
  have hrl : RES.length ≤ l.length := by rw [hres]; exact List.length_filter_le _ _
  have hrs : [] ++ del k (l.drop 0) = RES := by rw [hres]; rfl
  rw [← hres]
  have HRL := Lib.hid (Nat.le_trans hrl hl)
  have HRS := Lib.hid hrs
  obtain ⟨n, hn⟩ : ∃ n, n = l.length := ⟨_, rfl⟩
  have HN := Lib.hid hn
  rw [← hn]
  clear h hl hres hrl hrs hn
  go_enter Try.func24, Try.ntmps24
  go_wp2_with fail
  go_loopw [5, 6, 7, 8, 9, 10, 11, 12, 13, 14, 15, 16, 17, 18, 19, 20, 21, 22, 23, 24, 25, 26] (fun v9 ix _ _ _ _ _ _ _ _ _ _ _ _ _ _ _ _ _ _ _ _ wr => ∃ (z : Nat) (O : List Ix), ix = .int .i64 (z : Int) ∧ z ≤ n ∧ O ++ del k (l.drop z) = RES ∧ Rio wr w.heap.size v9 O ∧ Below w.heap.size w wr) (fun v9 ix _ _ _ _ _ _ _ _ _ _ _ _ _ _ _ _ _ _ _ _ _ => n - (intOf ix).toNat)
  case atStart => exact ⟨0, [], rfl, Nat.zero_le _, HRS.out, World.ownsRow_nil _ _ _ _, Below.refl _ _⟩
  case round =>
    obtain ⟨z, O, rfl, hz, he, ho, hb⟩ := hrel
    obtain ⟨A9, c9, rfl⟩ := own_form ho
    obtain ⟨n9, hn9⟩ : ∃ n9, n9 = O.length := ⟨_, rfl⟩
    have HOW0 := Lib.hid ho
    rw [← hn9]
    have HE := Lib.hid he
    have HBW := Lib.hid hb
    have HOW : Hid (∀ o, (wr.alloc o).ownsRow w.heap.size 65 4 (.slice A9 n9 c9) n9 (rowV RI O)) := Lib.hid (fun o => by rw [hn9]; exact Rio.below ho ((Below.refl _ _).alloc (Nat.le_refl _) o))
    have HBB : Hid (∀ o, w.heap.size ≤ (wr.alloc o).heap.size) := Lib.hid (fun o => Nat.le_trans hb.size ((Below.refl _ wr).alloc (Nat.le_refl _) o).size)
    have HN9 := Lib.hid hn9
    have HBN := Lib.hid (show n9 ≤ 100000 from by have h1 := HRL.out; rw [← he, List.length_append, ← hn9] at h1; omega)
    clear he ho hn9
    by_cases hlt : z < n
    · have hzl : z < l.length := by rw [← HN.out]; exact hlt
      obtain ⟨b, off, rfl, hcl⟩ := Ris.cell (RowAt.below HH.out hb) (by omega)
      obtain ⟨x0, x1, x2, x3⟩ := hcl z hzl
      obtain ⟨x, hx⟩ : ∃ x, x = l[z] := ⟨_, rfl⟩
      have hda : l.drop z = x :: l.drop (z + 1) := drop_at (by rw [hx]; exact List.getElem?_eq_getElem hzl)
      rw [← hx] at x0 x1 x2 x3
      have HDA := Lib.hid hda
      have hnb : n ≤ 100000 := by rw [HN.out]; exact HL.out
      clear hcl hx hzl hda hb
      by_cases hk : x.k = k
      · have d1 : (x.k != k) = false := by rw [hk]; simp
        have HKK := Lib.hid hk
        clear hk
        go_wp2_with fail
        go_roundw
        case rel =>
          refine ⟨z + 1, O, by go_num, by omega, ?_, by rw [HN9.out]; exact HOW0.out, HBW.out⟩
          have h9 := HE.out
          rw [HDA.out, del_cons_yes HKK.out] at h9
          exact h9
        case measure => simp [intOf]; omega
      · have d1 : (x.k != k) = true := by simp [hk]
        have HKK := Lib.hid hk
        clear hk
        go_wp2_with (at_builtin; refine wpList_append_rowg elemRI rfl (.tmp 20) (.tmp 25) rfl w.heap.size (.slice A9 n9 c9) n9 (rowV RI O) rfl (HOW.out _) (some ⟨wr.heap.size, 0, none⟩) 1 1 (RI x) rfl (rdv_freshR wr x 65) (ri1 x) (fun h => by cases h) (by have := HBN.out; unfold maxLen; omega) (by have := HBN.out; omega) (HBB.out _) ?_; intro v' w' ho hg hq; obtain ⟨A8, c8, rfl⟩ := own_form ho; have HO8 := Lib.hid ho; have HB8 := Lib.hid (below_app HBW.out HOW0.out (by rw [← HN9.out]; exact hg)); clear ho hg hq)
        go_roundw
        case rel =>
          refine ⟨z + 1, O ++ [x], by go_num, by omega, ?_, ?_, HB8.out⟩
          · have h9 := HE.out
            rw [HDA.out, del_cons_no HKK.out] at h9
            rw [← h9]; simp
          · show World.ownsRow _ _ _ _ _ (O ++ [x]).length _
            rw [List.length_append, ← HN9.out, rowV_append]
            simpa [rowV] using HO8.out
        case measure => simp [intOf]; omega

    · obtain rfl : z = n := by omega
      clear hb
      go_wp2_with fail
      go_ret
      have h9 := HE.out
      rw [List.drop_of_length_le (by rw [← HN.out]; exact Nat.le_refl _)] at h9
      have h8 : O = RES := by simpa [del, rng] using h9
      refine ⟨_, rfl, ?_, HBW.out⟩
      rw [← h8]
      have := HOW0.out
      rw [← HN9.out] at this
      exact this
set_option maxHeartbeats 8000000 in
theorem refRange_any {w : World} {A : Option Addr} {c : Nat} {l : List Ix} (h : Ris w A l) (hl : l.length ≤ 100000) (lo hi : Int) : Calls Try.prog 17 #[.slice A l.length c, .int .i64 lo, .int .i64 hi] w fun e w' => ∃ v, e = .returned v ∧ Rio w' w.heap.size v (rng lo hi l) ∧ Below w.heap.size w w' := by
  have HH := Lib.hid h
  have HL := Lib.hid hl
  obtain ⟨RES, hres⟩ : ∃ RES, RES = rng lo hi l := ⟨_, rfl⟩
  have hrl : RES.length ≤ l.length := by rw [hres]; exact List.length_filter_le _ _
  have hrs : [] ++ rng lo hi (l.drop 0) = RES := by rw [hres]; rfl
  rw [← hres]
  have HRL := Lib.hid (Nat.le_trans hrl hl)
  have HRS := Lib.hid hrs
  obtain ⟨n, hn⟩ : ∃ n, n = l.length := ⟨_, rfl⟩
  have HN := Lib.hid hn
  rw [← hn]
  clear h hl hres hrl hrs hn
  go_enter Try.func17, Try.ntmps17
  go_wp2_with fail
  go_loopw [7, 8, 9, 10, 11, 12, 13, 14, 15, 16, 17, 18, 19, 20, 21, 22, 23, 24, 25, 26, 27, 28, 29, 30, 31, 32, 33, 34, 35, 36, 37] (fun v9 ix _ _ _ _ _ _ _ _ _ _ _ _ _ _ _ _ _ _ _ _ _ _ _ _ _ _ _ _ _ wr => ∃ (z : Nat) (O : List Ix), ix = .int .i64 (z : Int) ∧ z ≤ n ∧ O ++ rng lo hi (l.drop z) = RES ∧ Rio wr w.heap.size v9 O ∧ Below w.heap.size w wr) (fun v9 ix _ _ _ _ _ _ _ _ _ _ _ _ _ _ _ _ _ _ _ _ _ _ _ _ _ _ _ _ _ _ => n - (intOf ix).toNat)
  case atStart => exact ⟨0, [], rfl, Nat.zero_le _, HRS.out, World.ownsRow_nil _ _ _ _, Below.refl _ _⟩
  case round =>
    obtain ⟨z, O, rfl, hz, he, ho, hb⟩ := hrel
    obtain ⟨A9, c9, rfl⟩ := own_form ho
    obtain ⟨n9, hn9⟩ : ∃ n9, n9 = O.length := ⟨_, rfl⟩
    have HOW0 := Lib.hid ho
    rw [← hn9]
    have HE := Lib.hid he
    have HBW := Lib.hid hb
    have HOW : Hid (∀ o, (wr.alloc o).ownsRow w.heap.size 65 4 (.slice A9 n9 c9) n9 (rowV RI O)) := Lib.hid (fun o => by rw [hn9]; exact Rio.below ho ((Below.refl _ _).alloc (Nat.le_refl _) o))
    have HBB : Hid (∀ o, w.heap.size ≤ (wr.alloc o).heap.size) := Lib.hid (fun o => Nat.le_trans hb.size ((Below.refl _ wr).alloc (Nat.le_refl _) o).size)
    have HN9 := Lib.hid hn9
    have HBN := Lib.hid (show n9 ≤ 100000 from by have h1 := HRL.out; rw [← he, List.length_append, ← hn9] at h1; omega)
    clear he ho hn9
    by_cases hlt : z < n
    · have hzl : z < l.length := by rw [← HN.out]; exact hlt
      obtain ⟨b, off, rfl, hcl⟩ := Ris.cell (RowAt.below HH.out hb) (by omega)
      obtain ⟨x0, x1, x2, x3⟩ := hcl z hzl
      obtain ⟨x, hx⟩ : ∃ x, x = l[z] := ⟨_, rfl⟩
      have hda : l.drop z = x :: l.drop (z + 1) := drop_at (by rw [hx]; exact List.getElem?_eq_getElem hzl)
      rw [← hx] at x0 x1 x2 x3
      have HDA := Lib.hid hda
      have hnb : n ≤ 100000 := by rw [HN.out]; exact HL.out
      clear hcl hx hzl hda hb
      by_cases h1 : lo ≤ x.k
      · have d1 : decide (lo ≤ x.k) = true := decide_eq_true h1
        by_cases h2 : x.k ≤ hi
        · have d2 : decide (x.k ≤ hi) = true := decide_eq_true h2
          have HKK := Lib.hid (And.intro h1 h2)
          clear h1 h2
          go_wp2_with (at_builtin; refine wpList_append_rowg elemRI rfl (.tmp 31) (.tmp 36) rfl w.heap.size (.slice A9 n9 c9) n9 (rowV RI O) rfl (HOW.out _) (some ⟨wr.heap.size, 0, none⟩) 1 1 (RI x) rfl (rdv_freshR wr x 65) (ri1 x) (fun h => by cases h) (by have := HBN.out; unfold maxLen; omega) (by have := HBN.out; omega) (HBB.out _) ?_; intro v' w' ho hg hq; obtain ⟨A8, c8, rfl⟩ := own_form ho; have HO8 := Lib.hid ho; have HB8 := Lib.hid (below_app HBW.out HOW0.out (by rw [← HN9.out]; exact hg)); clear ho hg hq)
          go_roundw
          case rel =>
            refine ⟨z + 1, O ++ [x], by go_num, by omega, ?_, ?_, HB8.out⟩
            · have h9 := HE.out
              rw [HDA.out, rng_cons_yes HKK.out.1 HKK.out.2] at h9
              rw [← h9]; simp
            · show World.ownsRow _ _ _ _ _ (O ++ [x]).length _
              rw [List.length_append, ← HN9.out, rowV_append]
              simpa [rowV] using HO8.out
          case measure => simp [intOf]; omega
        · have d2 : decide (x.k ≤ hi) = false := decide_eq_false h2
          have HKK := Lib.hid (show ¬ (lo ≤ x.k ∧ x.k ≤ hi) from fun e => h2 e.2)
          clear h1 h2
          go_wp2_with fail
          go_roundw
          case rel =>
            refine ⟨z + 1, O, by go_num, by omega, ?_, by rw [HN9.out]; exact HOW0.out, HBW.out⟩
            have h9 := HE.out
            rw [HDA.out, rng_cons_no HKK.out] at h9
            exact h9
          case measure => simp [intOf]; omega
      · have d1 : decide (lo ≤ x.k) = false := decide_eq_false h1
        have HKK := Lib.hid (show ¬ (lo ≤ x.k ∧ x.k ≤ hi) from fun e => h1 e.1)
        clear h1
        go_wp2_with fail
        go_roundw
        case rel =>
          refine ⟨z + 1, O, by go_num, by omega, ?_, by rw [HN9.out]; exact HOW0.out, HBW.out⟩
          have h9 := HE.out
          rw [HDA.out, rng_cons_no HKK.out] at h9
          exact h9
        case measure => simp [intOf]; omega

    · obtain rfl : z = n := by omega
      clear hb
      go_wp2_with fail
      go_ret
      have h9 := HE.out
      rw [List.drop_of_length_le (by rw [← HN.out]; exact Nat.le_refl _)] at h9
      have h8 : O = RES := by simpa [del, rng] using h9
      refine ⟨_, rfl, ?_, HBW.out⟩
      rw [← h8]
      have := HOW0.out
      rw [← HN9.out] at this
      exact this
end Go.Proofs.Ytdbckolndaodeaa
