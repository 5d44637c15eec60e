/- RS5: put together. -/
import Derived.Test.YtejpjbmbcdgomaaPd01
/- The document's store: Range. Written by gen_rs5.py. -/
namespace Go.Proofs.Ytejpjbmbcdgomaa
set_option maxRecDepth 100000
open Go.RowKit

def inE (t lo hi : Int) (e : En) : Bool := decide ((e.t : Int) = t) && (decide (lo ≤ e.x.k) && (decide (e.x.k ≤ hi) && !e.x.c.dead))
def rangeE (t lo hi : Int) (l : List En) : List En := l.filter (inE t lo hi)
abbrev Eno (w : World) (B : Nat) (v : Value) (l : List En) : Prop := w.ownsRow B 46 5 v l.length (rowV En.vals l)
theorem Eno.below {w w' : World} {B : Nat} {v : Value} {l : List En} (h : Eno w B v l) (hb : Below w.heap.size w w') : Eno w' B v l := own_same h fun q hq => by
  obtain ⟨_, e⟩ := own_at h hq
  exact hb.block q (Array.getElem?_eq_some_iff.1 e).1
theorem own_down {w : World} {B B' e size n : Nat} {v : Value} {xs : List Value} (h : w.ownsRow B e size v n xs) (hB : B' ≤ B) : w.ownsRow B' e size v n xs := by
  refine ⟨h.1, ?_⟩
  rcases h.2 with h0 | ⟨g, c, cur, e, h1, h2⟩
  · exact .inl h0
  · exact .inr ⟨g, c, cur, e, Nat.le_trans hB h1, h2⟩
set_option maxHeartbeats 8000000 in
theorem r9range_any {w : World} {A : Option Addr} {c : Nat} {l : List En} {last : Int} (h : Ens w A l) (hl : l.length ≤ 100000) (t lo hi : Int) : Calls Try.prog 14 #[.agg #[.slice A l.length c, .int .i64 last], .agg #[.int .i64 t, .int .i64 lo, .int .i64 hi]] w fun e w' => ∃ v, e = .returned v ∧ Eno w' w.heap.size v (rangeE t lo hi l) ∧ Below w.heap.size w w' := by
  obtain ⟨n, hn⟩ : ∃ n, n = l.length := ⟨_, rfl⟩
  obtain ⟨W1, hW1⟩ : ∃ W1, W1 = ((w.alloc (.cells #[.slice A n c, .int .i64 last] 31)).alloc (.cells #[.int .i64 t, .int .i64 lo, .int .i64 hi] 24)) := ⟨_, rfl⟩
  have h3 := blocks2 w (.cells #[.slice A n c, .int .i64 last] 31) (.cells #[.int .i64 t, .int .i64 lo, .int .i64 hi] 24)
  rw [← hW1] at h3
  have HW := Lib.hid hW1
  obtain ⟨p0, hp0⟩ : ∃ p0, p0 = w.heap.size := ⟨_, rfl⟩
  obtain ⟨p1, hp1⟩ : ∃ p1, p1 = p0 + 1 := ⟨_, rfl⟩
  rw [← hp0, ← hp1] at h3
  have HP := Lib.hid (And.intro hp0 hp1)
  have hbw : Below w.heap.size w W1 := by rw [hp0] at h3; exact h3.2.2.2
  have HBW := Lib.hid (And.intro hbw (RowAt.below h hbw))
  have HC : Hid (∀ wr, Below W1.heap.size W1 wr → wr.cell? ⟨p0, 0, none⟩ = some (.slice A n c) ∧ wr.cell? ⟨p1, 0, none⟩ = some (.int .i64 t) ∧ wr.cell? ⟨p1, 1, none⟩ = some (.int .i64 lo) ∧ wr.cell? ⟨p1, 2, none⟩ = some (.int .i64 hi)) := Lib.hid fun wr hb => by
    have e0 := (hb.block p0 (Array.getElem?_eq_some_iff.1 h3.1).1).trans h3.1
    have e1 := (hb.block p1 (Array.getElem?_eq_some_iff.1 h3.2.1).1).trans h3.2.1
    exact ⟨by rw [cell_of_row _ _ 0 _ _ _ e0]; rfl, by rw [cell_of_row _ _ 0 _ _ _ e1]; rfl, by rw [cell_of_row _ _ 1 _ _ _ e1]; rfl, by rw [cell_of_row _ _ 2 _ _ _ e1]; rfl⟩
  obtain ⟨RES, hres⟩ : ∃ RES, RES = rangeE t lo hi l := ⟨_, rfl⟩
  have HG : Hid (([] : List En) ++ rangeE t lo hi (l.drop 0) = RES) := Lib.hid (by rw [hres]; rfl)
  rw [← hres, ← hn]
  have HN := Lib.hid (And.intro hn hl)
  clear hW1 h3 hp0 hp1 hbw hres hn h hl
  go_enter Try.func14, Try.ntmps14
  go_upto_region 1 with fail
  rw [← HW.out, ← HP.out.1, ← HP.out.2]
  go_wp2_with fail
  go_loopw [5, 6, 7, 8, 9, 10, 11, 12, 13, 14, 15, 16, 17, 18, 19, 20, 21, 22, 23, 24, 25, 26, 27, 28, 29, 30, 31, 32, 33, 34, 35, 36, 37, 38, 39, 40, 41, 42, 43, 44, 45, 46, 47, 48, 49, 50, 51] (fun lv ix _ _ _ _ _ _ _ _ _ _ _ _ _ _ _ _ _ _ _ _ _ _ _ _ _ _ _ _ _ _ _ _ _ _ _ _ _ _ _ _ _ _ _ _ _ wr => ∃ (z : Nat) (O : List En), ix = .int .i64 (z : Int) ∧ z ≤ n ∧ O ++ rangeE t lo hi (l.drop z) = RES ∧ O.length ≤ z ∧ Eno wr W1.heap.size lv O ∧ Below W1.heap.size W1 wr) (fun lv ix _ _ _ _ _ _ _ _ _ _ _ _ _ _ _ _ _ _ _ _ _ _ _ _ _ _ _ _ _ _ _ _ _ _ _ _ _ _ _ _ _ _ _ _ _ wr => n - (intOf ix).toNat)
  case atStart => exact ⟨0, [], rfl, Nat.zero_le _, HG.out, Nat.zero_le _, World.ownsRow_nil _ _ _ _, Below.refl _ _⟩
  case round =>
    obtain ⟨z, O, rfl, hz, he, hO, ho, hb⟩ := hrel
    obtain ⟨A9, c9, rfl⟩ := own_form ho
    have HE := Lib.hid (And.intro he hO)
    have HO := Lib.hid (And.intro ho hb)
    obtain ⟨s0, _⟩ := HC.out wr hb
    obtain ⟨n9, hn9⟩ : ∃ n9, n9 = O.length := ⟨_, rfl⟩
    have HN9 := Lib.hid hn9
    rw [← hn9]
    clear he hO hn9
    by_cases hlt : z < n
    · have hzl : z < l.length := by rw [← HN.out.1]; exact hlt
      obtain ⟨b, off, rfl, hcl⟩ := Ens.cell (RowAt.below HBW.out.2 hb) (by omega)
      obtain ⟨x0, x1, x2, x3, x4⟩ := hcl z hzl
      obtain ⟨e, hx0⟩ : ∃ e, e = l[z] := ⟨_, rfl⟩
      have hda : l.drop z = e :: l.drop (z + 1) := drop_at (by rw [hx0]; exact List.getElem?_eq_getElem hzl)
      rw [← hx0] at x0 x1 x2 x3 x4
      have HDA := Lib.hid hda
      have hnb : n ≤ 100000 := by rw [HN.out.1]; exact HN.out.2
      have HNB : Hid (n9 ≤ 100000) := Lib.hid (by rw [HN9.out]; have := HE.out.2; omega)
      obtain ⟨p6, hp6⟩ : ∃ p6, p6 = wr.heap.size := ⟨_, rfl⟩
      obtain ⟨we, hwe⟩ : ∃ we, we = wr.alloc (.cells #[.int .i64 (e.t : Int), .int .i64 e.x.k, .int .i64 e.x.c.v, .int .i64 e.x.c.s, .bool e.x.c.dead] 46) := ⟨_, rfl⟩
      have hbe : Below wr.heap.size wr we := by rw [hwe]; exact (Below.refl _ _).alloc (Nat.le_refl _) _
      have hE6 : we.heap[p6]? = some (enO e) := by rw [hwe, hp6]; exact heap_alloc_new wr _
      have HOE : Hid (Eno we W1.heap.size (.slice A9 O.length c9) O ∧ Below W1.heap.size W1 we) := Lib.hid ⟨ho.below hbe, hb.trans (hbe.mono hb.size)⟩
      have HWE := Lib.hid hwe
      have HP6 := Lib.hid hp6
      clear hcl hx0 hzl hda hwe hp6 ho hb
      go_upto_region 6 with fail
      rw [← HWE.out, ← HP6.out]
      clear s0 x0 x1 x2 x3 x4 hbe
      obtain ⟨_, u0, u1, u2⟩ := HC.out we HOE.out.2
      have m0 : we.cell? ⟨p6, 0, none⟩ = some (.int .i64 (e.t : Int)) := by rw [cell_of_row _ _ 0 _ _ _ hE6]; rfl
      have m1 : we.cell? ⟨p6, 1, none⟩ = some (.int .i64 e.x.k) := by rw [cell_of_row _ _ 1 _ _ _ hE6]; rfl
      have m2 : we.cell? ⟨p6, 2, none⟩ = some (.int .i64 e.x.c.v) := by rw [cell_of_row _ _ 2 _ _ _ hE6]; rfl
      have m3 : we.cell? ⟨p6, 3, none⟩ = some (.int .i64 e.x.c.s) := by rw [cell_of_row _ _ 3 _ _ _ hE6]; rfl
      obtain ⟨vd, hvd⟩ : ∃ vd, vd = e.x.c.dead := ⟨_, rfl⟩
      have m4 : we.cell? ⟨p6, 4, none⟩ = some (.bool vd) := by rw [cell_of_row _ _ 4 _ _ _ hE6, hvd]; rfl
      have HVD := Lib.hid hvd
      clear hE6 hvd
      by_cases h1 : (e.t : Int) = t
      · have d1 : ((e.t : Int) == t) = true := by rw [h1]; simp
        by_cases h2 : lo ≤ e.x.k
        · by_cases h3 : e.x.k ≤ hi
          · cases vd with
            | true =>
              clear h1
              have HI : Hid (inE t lo hi e = false) := Lib.hid (by unfold inE; rw [← HVD.out]; simp)
              go_wp2_with fail
              go_roundw
              case rel => exact ⟨z + 1, O, by go_num, by omega, by rw [← HE.out.1, HDA.out]; unfold rangeE; rw [List.filter_cons_of_neg (by rw [HI.out]; decide)], by have := HE.out.2; omega, by have h9 := HOE.out.1; rw [← HN9.out] at h9; exact h9, HOE.out.2⟩
              case measure => simp [intOf]; omega
            | false =>
              have HI : Hid (inE t lo hi e = true) := Lib.hid (by unfold inE; rw [← HVD.out]; simp [h1, h2, h3])
              clear h1
              have HOW : Hid (∀ o, (we.alloc o).ownsRow W1.heap.size 46 5 (.slice A9 n9 c9) n9 (rowV En.vals O)) := Lib.hid fun o => by have h9 := HOE.out.1.below ((Below.refl _ _).alloc (Nat.le_refl _) o); unfold Eno at h9; rw [← HN9.out] at h9; exact h9
              have HBB : Hid (∀ o, W1.heap.size ≤ (we.alloc o).heap.size) := Lib.hid fun o => Nat.le_trans HOE.out.2.size ((Below.refl _ we).alloc (Nat.le_refl _) o).size
              have HRV : Hid (∀ T, Rdv (we.alloc (.cells #[.int .i64 (e.t : Int), .int .i64 e.x.k, .int .i64 e.x.c.v, .int .i64 e.x.c.s, .bool false] T)) (some ⟨we.heap.size, 0, none⟩) 1 5 e.vals) := Lib.hid fun T => by have h9 := rdv_freshE we e T; rw [← HVD.out] at h9; exact h9
              go_wp2_with (at_builtin; refine wpList_append_rowg elemEn rfl (.tmp 48) (.tmp 50) rfl W1.heap.size (.slice A9 n9 c9) n9 (rowV En.vals O) rfl (HOW.out _) (some ⟨we.heap.size, 0, none⟩) 1 1 (En.vals e) rfl (HRV.out _) (en1 _) (fun h => by cases h) (by have := HNB.out; unfold maxLen; omega) (by have := HNB.out; omega) (HBB.out _) ?_; intro v' w' ho hg hq; obtain ⟨A8, c8, rfl⟩ := own_form ho; have HO8 := Lib.hid ho; have HB8 := Lib.hid (below_appW HOE.out.2 HOE.out.1 (by rw [← HN9.out]; exact hg)); clear ho hg hq)
              go_roundw
              case rel =>
                refine ⟨z + 1, O ++ [e], by go_num, by omega, ?_, ?_, ?_, HB8.out⟩
                · rw [← HE.out.1, HDA.out]; unfold rangeE; rw [List.filter_cons_of_pos HI.out]; simp
                · have := HE.out.2; simp; omega
                · show World.ownsRow _ _ _ _ _ (O ++ [e]).length _
                  rw [List.length_append, ← HN9.out, rowV_append]
                  simpa [rowV] using HO8.out
              case measure => simp [intOf]; omega
          · clear h1
            have HI : Hid (inE t lo hi e = false) := Lib.hid (by unfold inE; simp [h3])
            go_wp2_with fail
            go_roundw
            case rel => exact ⟨z + 1, O, by go_num, by omega, by rw [← HE.out.1, HDA.out]; unfold rangeE; rw [List.filter_cons_of_neg (by rw [HI.out]; decide)], by have := HE.out.2; omega, by have h9 := HOE.out.1; rw [← HN9.out] at h9; exact h9, HOE.out.2⟩
            case measure => simp [intOf]; omega
        · clear h1
          have HI : Hid (inE t lo hi e = false) := Lib.hid (by unfold inE; simp [h2])
          go_wp2_with fail
          go_roundw
          case rel => exact ⟨z + 1, O, by go_num, by omega, by rw [← HE.out.1, HDA.out]; unfold rangeE; rw [List.filter_cons_of_neg (by rw [HI.out]; decide)], by have := HE.out.2; omega, by have h9 := HOE.out.1; rw [← HN9.out] at h9; exact h9, HOE.out.2⟩
          case measure => simp [intOf]; omega
      · have d1 : ((e.t : Int) == t) = false := by simpa using h1
        have HI : Hid (inE t lo hi e = false) := Lib.hid (by unfold inE; simp [h1])
        go_wp2_with fail
        go_roundw
        case rel => exact ⟨z + 1, O, by go_num, by omega, by rw [← HE.out.1, HDA.out]; unfold rangeE; rw [List.filter_cons_of_neg (by rw [HI.out]; decide)], by have := HE.out.2; omega, by have h9 := HOE.out.1; rw [← HN9.out] at h9; exact h9, HOE.out.2⟩
        case measure => simp [intOf]; omega
    · obtain rfl : z = n := by omega
      have HRR : Hid (O = RES) := Lib.hid (by
        have h9 := HE.out.1
        rw [List.drop_of_length_le (by rw [← HN.out.1]; exact Nat.le_refl _)] at h9
        simpa [rangeE] using h9)
      clear ho hb
      go_wp2_with fail
      go_ret
      refine ⟨_, rfl, ?_, HBW.out.1.trans (HO.out.2.mono HBW.out.1.size)⟩
      rw [← HRR.out]
      have h9 := HO.out.1
      unfold Eno at h9
      rw [← HN9.out] at h9
      unfold Eno
      rw [← HN9.out]
      exact own_down h9 HBW.out.1.size
end Go.Proofs.Ytejpjbmbcdgomaa
