/- RS10: put together. -/
import Derived.Test.YtejpjbmbcdgomaaPd06
/- The document's store: From. Written by gen_rs10.py. -/
namespace Go.Proofs.Ytejpjbmbcdgomaa
set_option maxRecDepth 100000
open Go.RowKit

def keepE (t k : Int) (e : En) : Bool := !lessK (e.t : Int) e.x.k t k && !e.x.c.dead
def takeE (t k n : Int) (l : List En) : List En := (l.filter (keepE t k)).take n.toNat
set_option maxHeartbeats 16000000 in
theorem r9from_any {w : World} {A : Option Addr} {c : Nat} {l : List En} {last : Int} (h : Ens w A l) (hl : l.length ≤ 100000) (t k m : Int) : Calls Try.prog 19 #[.agg #[.slice A l.length c, .int .i64 last], .agg #[.int .i64 t, .int .i64 k], .int .i64 m] w fun e w' => ∃ v, e = .returned v ∧ Eno w' w.heap.size v (takeE t k m l) ∧ Below w.heap.size w w' := by
  obtain ⟨n, hn⟩ : ∃ n, n = l.length := ⟨_, rfl⟩
  obtain ⟨W1, hW1⟩ : ∃ W1, W1 = ((w.alloc (.cells #[.slice A n c, .int .i64 last] 31)).alloc (.cells #[.int .i64 t, .int .i64 k] 42)) := ⟨_, rfl⟩
  have h3 := blocks2 w (.cells #[.slice A n c, .int .i64 last] 31) (.cells #[.int .i64 t, .int .i64 k] 42)
  rw [← hW1] at h3
  have HW := Lib.hid hW1
  obtain ⟨p0, hp0⟩ : ∃ p0, p0 = w.heap.size := ⟨_, rfl⟩
  obtain ⟨p1, hp1⟩ : ∃ p1, p1 = p0 + 1 := ⟨_, rfl⟩
  rw [← hp0, ← hp1] at h3
  have HP := Lib.hid (And.intro hp0 hp1)
  have hbw : Below w.heap.size w W1 := by rw [hp0] at h3; exact h3.2.2.2
  have HBW := Lib.hid (And.intro hbw (RowAt.below h hbw))
  have HC : Hid (∀ wr, Below W1.heap.size W1 wr → wr.cell? ⟨p0, 0, none⟩ = some (.slice A n c) ∧ wr.cell? ⟨p1, 0, none⟩ = some (.int .i64 t) ∧ wr.cell? ⟨p1, 1, none⟩ = some (.int .i64 k)) := Lib.hid fun wr hb => by
    have e0 := (hb.block p0 (Array.getElem?_eq_some_iff.1 h3.1).1).trans h3.1
    have e1 := (hb.block p1 (Array.getElem?_eq_some_iff.1 h3.2.1).1).trans h3.2.1
    exact ⟨by rw [cell_of_row _ _ 0 _ _ _ e0]; rfl, by rw [cell_of_row _ _ 0 _ _ _ e1]; rfl, by rw [cell_of_row _ _ 1 _ _ _ e1]; rfl⟩
  obtain ⟨RES, hres⟩ : ∃ RES, RES = takeE t k m l := ⟨_, rfl⟩
  obtain ⟨N, hN⟩ : ∃ N, N = m.toNat := ⟨_, rfl⟩
  have HG : Hid (([] : List En) ++ ((l.drop 0).filter (keepE t k)).take (N - 0) = RES) := Lib.hid (by rw [hres, hN]; rfl)
  have HNN := Lib.hid hN
  rw [← hres, ← hn]
  have HN := Lib.hid (And.intro hn hl)
  clear hW1 h3 hp0 hp1 hbw hres hn h hl hN
  go_enter Try.func19, Try.ntmps19
  go_upto_region 1 with fail
  rw [← HW.out, ← HP.out.1, ← HP.out.2]
  go_wp2_with fail
  go_loopw [7, 8, 9, 10, 11, 12, 13, 14, 15, 16, 17, 18, 19, 20, 21, 22, 23, 24, 25, 26, 27, 28, 29, 30, 31, 32, 33, 34, 35, 36, 37, 38, 39, 40, 41, 42, 43, 44, 45, 46, 47, 48] (fun lv ix _ _ _ _ _ _ _ _ _ _ _ _ _ _ _ _ _ _ _ _ _ _ _ _ _ _ _ _ _ _ _ _ _ _ _ _ _ _ _ _ wr => ∃ (z : Nat) (O : List En), ix = .int .i64 (z : Int) ∧ z ≤ n ∧ O ++ ((l.drop z).filter (keepE t k)).take (N - O.length) = RES ∧ O.length ≤ N ∧ O.length ≤ z ∧ Eno wr W1.heap.size lv O ∧ Below W1.heap.size W1 wr) (fun lv ix _ _ _ _ _ _ _ _ _ _ _ _ _ _ _ _ _ _ _ _ _ _ _ _ _ _ _ _ _ _ _ _ _ _ _ _ _ _ _ _ wr => n - (intOf ix).toNat)
  case atStart => exact ⟨0, [], rfl, Nat.zero_le _, HG.out, Nat.zero_le _, Nat.zero_le _, World.ownsRow_nil _ _ _ _, Below.refl _ _⟩
  case round =>
    obtain ⟨z, O, rfl, hz, he, hO, hO2, ho, hb⟩ := hrel
    obtain ⟨A9, c9, rfl⟩ := own_form ho
    have HE := Lib.hid (And.intro he (And.intro hO hO2))
    have HO := Lib.hid (And.intro ho hb)
    obtain ⟨s0, k0, k1⟩ := HC.out wr hb
    obtain ⟨n9, hn9⟩ : ∃ n9, n9 = O.length := ⟨_, rfl⟩
    have HN9 := Lib.hid hn9
    rw [← hn9]
    clear he hO hO2 hn9
    by_cases hlt : z < n
    · by_cases hm : (n9 : Int) < m
      · have hzl : z < l.length := by rw [← HN.out.1]; exact hlt
        obtain ⟨b, off, rfl, hcl⟩ := Ens.cell (RowAt.below HBW.out.2 hb) (by omega)
        have hx := hcl z hzl
        obtain ⟨e, hx0⟩ : ∃ e, e = l[z] := ⟨_, rfl⟩
        have hda : l.drop z = e :: l.drop (z + 1) := drop_at (by rw [hx0]; exact List.getElem?_eq_getElem hzl)
        rw [← hx0] at hx
        have HDA := Lib.hid hda
        have hnb : n ≤ 100000 := by rw [HN.out.1]; exact HN.out.2
        have HNB : Hid (n9 ≤ 100000) := Lib.hid (by rw [HN9.out]; have := HE.out.2.2; omega)
        have HLT : Hid (O.length < N) := Lib.hid (by rw [HNN.out, ← HN9.out]; omega)
        obtain ⟨vd, hvd⟩ : ∃ vd, vd = e.x.c.dead := ⟨_, rfl⟩
        have HVD := Lib.hid hvd
        rw [← hvd] at hx
        have HCE : Hid (∀ W2, Below wr.drew.heap.size wr.drew W2 → W2.cell? ⟨p0, 0, none⟩ = some (.slice (some ⟨b, off, none⟩) n c) ∧ W2.cell? ⟨p1, 0, none⟩ = some (.int .i64 t) ∧ W2.cell? ⟨p1, 1, none⟩ = some (.int .i64 k) ∧ W2.cell? ⟨b, off + z * 5, none⟩ = some (.int .i64 (e.t : Int)) ∧ W2.cell? ⟨b, off + z * 5 + 1, none⟩ = some (.int .i64 e.x.k) ∧ W2.cell? ⟨b, off + z * 5 + 2, none⟩ = some (.int .i64 e.x.c.v) ∧ W2.cell? ⟨b, off + z * 5 + 3, none⟩ = some (.int .i64 e.x.c.s) ∧ W2.cell? ⟨b, off + z * 5 + 4, none⟩ = some (.bool vd)) := Lib.hid fun W2 hw => by
          have hw3 : Below wr.heap.size wr W2 := (Below.refl _ _).drew.trans hw
          obtain ⟨a1, a2, a3⟩ := HC.out W2 (hb.trans (hw3.mono hb.size))
          obtain ⟨y0, y1, y2, y3, y4⟩ := hx
          exact ⟨a1, a2, a3, (hw3.cell (World.block_lt_of_cell? _ _ y0)).trans y0, (hw3.cell (World.block_lt_of_cell? _ _ y1)).trans y1, (hw3.cell (World.block_lt_of_cell? _ _ y2)).trans y2, (hw3.cell (World.block_lt_of_cell? _ _ y3)).trans y3, (hw3.cell (World.block_lt_of_cell? _ _ y4)).trans y4⟩
        obtain ⟨ls, hls⟩ : ∃ ls, ls = lessK (e.t : Int) e.x.k t k := ⟨_, rfl⟩
        have HLS := Lib.hid (fun (W2 : World) => refLess_any W2 (e.t : Int) e.x.k t k)
        rw [← hls] at HLS
        have HKE : Hid (keepE t k e = (!ls && !vd)) := Lib.hid (by unfold keepE; rw [← hls, ← hvd])
        clear hcl hx hx0 hzl hda hvd hls ho hb
        cases ls with
        | true =>
          have HI : Hid (keepE t k e = false) := Lib.hid (by rw [HKE.out]; rfl)
          go_upto_region 5 with fail
          clear s0 k0 k1
          refine wp_region_noPanic ?_
          refine wp_region_abs 18 50 [
            .is (.pointer (some ⟨p0, 0, none⟩)),
            .is (.slice (some ⟨b, off, none⟩) n c),
            .is (.int .i64 (z : Int)),
            .is (.pointer (some ⟨b, off + z * 5, none⟩)),
            .is (.pointer (some ⟨b, off + z * 5, none⟩)),
            .is (.agg #[.int .i64 (e.t : Int), .int .i64 e.x.k]),
            .is (.agg #[.int .i64 t, .int .i64 k]),
            .is (.bool true),
            .is (.bool false),
            .is (.bool false),
            .is undef,
            .is undef,
            .is undef,
            .is undef,
            .is undef,
            .is undef,
            .is undef,
            .is undef]
            [22, 23, 24, 25, 26, 27, 28, 29, 30, 31, 32, 33, 34, 35, 36, 37, 38, 39]
            [[], [0], [], [1, 2], [3], [4], [], [5, 6], [7], [8], [9], [10, 9], [9], [11, 12, 9], [13, 9], [14, 9], [15, 9], [16, 9]] (by kernel_rfl) (by rfl) rfl rfl (by kernel_rfl) (fun _ _ _ _ h => h.elim) ?_ ?_
          · refine ⟨?_, ?_, ?_, ?_, ?_, ?_, ?_, ?_, ?_, ?_, ?_, ?_, ?_, ?_, ?_, ?_, ?_, ?_, trivial⟩
            · intro W2 hw K hK
              go_simp
              exact hK _ _ rfl (Below.refl _ _)
            · intro W2 hw K hK
              obtain ⟨s0, k0, k1, x0, x1, x2, x3, x4⟩ := HCE.out W2 hw
              go_simp
              exact hK _ _ rfl (Below.refl _ _)
            · intro W2 hw K hK
              go_simp
              exact hK _ _ rfl (Below.refl _ _)
            · intro W2 hw K hK
              obtain ⟨s0, k0, k1, x0, x1, x2, x3, x4⟩ := HCE.out W2 hw
              go_simp
              exact hK _ _ rfl (Below.refl _ _)
            · intro W2 hw K hK
              go_simp
              exact hK _ _ rfl (Below.refl _ _)
            · intro W2 hw K hK
              obtain ⟨s0, k0, k1, x0, x1, x2, x3, x4⟩ := HCE.out W2 hw
              go_simp
              exact hK _ _ rfl (Below.refl _ _)
            · intro W2 hw K hK
              obtain ⟨s0, k0, k1, x0, x1, x2, x3, x4⟩ := HCE.out W2 hw
              go_simp
              exact hK _ _ rfl (Below.refl _ _)
            · intro W2 hw K hK
              go_simp
              refine Calls.mono (HLS.out W2) ?_
              rintro e9 w9 ⟨rfl, hb9⟩
              exact hK _ _ rfl hb9
            · intro W2 hw K hK
              go_simp
              exact hK _ _ rfl (Below.refl _ _)
            · intro W2 hw K hK
              go_simp
              exact hK _ _ rfl (Below.refl _ _)
            · intro W2 hw K hK
              go_simp
              exact hK _ _ rfl (Below.refl _ _)
            · intro W2 hw K hK
              obtain ⟨s0, k0, k1, x0, x1, x2, x3, x4⟩ := HCE.out W2 hw
              go_simp
              exact hK _ _ rfl (Below.refl _ _)
            · intro W2 hw K hK
              go_simp
              exact hK _ _ rfl (Below.refl _ _)
            · intro W2 hw K hK
              obtain ⟨s0, k0, k1, x0, x1, x2, x3, x4⟩ := HCE.out W2 hw
              go_simp
              exact hK _ _ rfl (Below.refl _ _)
            · intro W2 hw K hK
              go_simp
              exact hK _ _ rfl (Below.refl _ _)
            · intro W2 hw K hK
              go_simp
              exact hK _ _ rfl (Below.refl _ _)
            · intro W2 hw K hK
              obtain ⟨s0, k0, k1, x0, x1, x2, x3, x4⟩ := HCE.out W2 hw
              go_simp
              exact hK _ _ rfl (Below.refl _ _)
            · intro W2 hw K hK
              go_simp
              exact hK _ _ rfl (Below.refl _ _)
          · intro W2 hw2
            simp only [Behind]
            have HB6 := Lib.hid ((Below.refl _ wr).drew.trans hw2)
            have HB6d := Lib.hid hw2
            clear hw2
            simp only [List.drop, Act.put, List.setIfInBounds_toArray, List.set_cons_zero, List.set_cons_succ]
            go_wp2_with fail
            refine NoPanic.normal ?_
            go_wp2_with fail
            go_roundw
            case rel => exact ⟨z + 1, O, by go_num, by omega, by rw [← HE.out.1, HDA.out, List.filter_cons_of_neg (by rw [HI.out]; decide)], HE.out.2.1, by have := HE.out.2.2; omega, by have h9 := Eno.below HO.out.1 HB6.out; rw [← HN9.out] at h9; exact h9, HO.out.2.trans (HB6.out.mono HO.out.2.size)⟩
            case measure => simp [intOf]; omega
        | false =>
          cases vd with
          | true =>
            have HI : Hid (keepE t k e = false) := Lib.hid (by rw [HKE.out]; rfl)
            go_upto_region 5 with fail
            clear s0 k0 k1
            refine wp_region_noPanic ?_
            refine wp_region_abs 18 50 [
              .is (.pointer (some ⟨p0, 0, none⟩)),
              .is (.slice (some ⟨b, off, none⟩) n c),
              .is (.int .i64 (z : Int)),
              .is (.pointer (some ⟨b, off + z * 5, none⟩)),
              .is (.pointer (some ⟨b, off + z * 5, none⟩)),
              .is (.agg #[.int .i64 (e.t : Int), .int .i64 e.x.k]),
              .is (.agg #[.int .i64 t, .int .i64 k]),
              .is (.bool false),
              .is (.bool true),
              .is (.bool true),
              .is (.pointer (some ⟨p0, 0, none⟩)),
              .is (.slice (some ⟨b, off, none⟩) n c),
              .is (.int .i64 (z : Int)),
              .is (.pointer (some ⟨b, off + z * 5, none⟩)),
              .is (.pointer (some ⟨b, off + z * 5 + 2, none⟩)),
              .is (.pointer (some ⟨b, off + z * 5 + 4, none⟩)),
              .is (.bool true),
              .is (.bool false)]
              [22, 23, 24, 25, 26, 27, 28, 29, 30, 31, 32, 33, 34, 35, 36, 37, 38, 39]
              [[], [0], [], [1, 2], [3], [4], [], [5, 6], [7], [8], [9], [10, 9], [9], [11, 12, 9], [13, 9], [14, 9], [15, 9], [16, 9]] (by kernel_rfl) (by rfl) rfl rfl (by kernel_rfl) (fun _ _ _ _ h => h.elim) ?_ ?_
            · refine ⟨?_, ?_, ?_, ?_, ?_, ?_, ?_, ?_, ?_, ?_, ?_, ?_, ?_, ?_, ?_, ?_, ?_, ?_, trivial⟩
              · intro W2 hw K hK
                go_simp
                exact hK _ _ rfl (Below.refl _ _)
              · intro W2 hw K hK
                obtain ⟨s0, k0, k1, x0, x1, x2, x3, x4⟩ := HCE.out W2 hw
                go_simp
                exact hK _ _ rfl (Below.refl _ _)
              · intro W2 hw K hK
                go_simp
                exact hK _ _ rfl (Below.refl _ _)
              · intro W2 hw K hK
                obtain ⟨s0, k0, k1, x0, x1, x2, x3, x4⟩ := HCE.out W2 hw
                go_simp
                exact hK _ _ rfl (Below.refl _ _)
              · intro W2 hw K hK
                go_simp
                exact hK _ _ rfl (Below.refl _ _)
              · intro W2 hw K hK
                obtain ⟨s0, k0, k1, x0, x1, x2, x3, x4⟩ := HCE.out W2 hw
                go_simp
                exact hK _ _ rfl (Below.refl _ _)
              · intro W2 hw K hK
                obtain ⟨s0, k0, k1, x0, x1, x2, x3, x4⟩ := HCE.out W2 hw
                go_simp
                exact hK _ _ rfl (Below.refl _ _)
              · intro W2 hw K hK
                go_simp
                refine Calls.mono (HLS.out W2) ?_
                rintro e9 w9 ⟨rfl, hb9⟩
                exact hK _ _ rfl hb9
              · intro W2 hw K hK
                go_simp
                exact hK _ _ rfl (Below.refl _ _)
              · intro W2 hw K hK
                go_simp
                exact hK _ _ rfl (Below.refl _ _)
              · intro W2 hw K hK
                go_simp
                exact hK _ _ rfl (Below.refl _ _)
              · intro W2 hw K hK
                obtain ⟨s0, k0, k1, x0, x1, x2, x3, x4⟩ := HCE.out W2 hw
                go_simp
                exact hK _ _ rfl (Below.refl _ _)
              · intro W2 hw K hK
                go_simp
                exact hK _ _ rfl (Below.refl _ _)
              · intro W2 hw K hK
                obtain ⟨s0, k0, k1, x0, x1, x2, x3, x4⟩ := HCE.out W2 hw
                go_simp
                exact hK _ _ rfl (Below.refl _ _)
              · intro W2 hw K hK
                go_simp
                exact hK _ _ rfl (Below.refl _ _)
              · intro W2 hw K hK
                go_simp
                exact hK _ _ rfl (Below.refl _ _)
              · intro W2 hw K hK
                obtain ⟨s0, k0, k1, x0, x1, x2, x3, x4⟩ := HCE.out W2 hw
                go_simp
                exact hK _ _ rfl (Below.refl _ _)
              · intro W2 hw K hK
                go_simp
                exact hK _ _ rfl (Below.refl _ _)
            · intro W2 hw2
              simp only [Behind]
              have HB6 := Lib.hid ((Below.refl _ wr).drew.trans hw2)
              have HB6d := Lib.hid hw2
              clear hw2
              simp only [List.drop, Act.put, List.setIfInBounds_toArray, List.set_cons_zero, List.set_cons_succ]
              go_wp2_with fail
              refine NoPanic.normal ?_
              go_wp2_with fail
              go_roundw
              case rel => exact ⟨z + 1, O, by go_num, by omega, by rw [← HE.out.1, HDA.out, List.filter_cons_of_neg (by rw [HI.out]; decide)], HE.out.2.1, by have := HE.out.2.2; omega, by have h9 := Eno.below HO.out.1 HB6.out; rw [← HN9.out] at h9; exact h9, HO.out.2.trans (HB6.out.mono HO.out.2.size)⟩
              case measure => simp [intOf]; omega
          | false =>
            have HI : Hid (keepE t k e = true) := Lib.hid (by rw [HKE.out]; rfl)
            go_upto_region 5 with fail
            clear s0 k0 k1
            refine wp_region_noPanic ?_
            refine wp_region_abs 18 50 [
              .is (.pointer (some ⟨p0, 0, none⟩)),
              .is (.slice (some ⟨b, off, none⟩) n c),
              .is (.int .i64 (z : Int)),
              .is (.pointer (some ⟨b, off + z * 5, none⟩)),
              .is (.pointer (some ⟨b, off + z * 5, none⟩)),
              .is (.agg #[.int .i64 (e.t : Int), .int .i64 e.x.k]),
              .is (.agg #[.int .i64 t, .int .i64 k]),
              .is (.bool false),
              .is (.bool true),
              .is (.bool true),
              .is (.pointer (some ⟨p0, 0, none⟩)),
              .is (.slice (some ⟨b, off, none⟩) n c),
              .is (.int .i64 (z : Int)),
              .is (.pointer (some ⟨b, off + z * 5, none⟩)),
              .is (.pointer (some ⟨b, off + z * 5 + 2, none⟩)),
              .is (.pointer (some ⟨b, off + z * 5 + 4, none⟩)),
              .is (.bool false),
              .is (.bool true)]
              [22, 23, 24, 25, 26, 27, 28, 29, 30, 31, 32, 33, 34, 35, 36, 37, 38, 39]
              [[], [0], [], [1, 2], [3], [4], [], [5, 6], [7], [8], [9], [10, 9], [9], [11, 12, 9], [13, 9], [14, 9], [15, 9], [16, 9]] (by kernel_rfl) (by rfl) rfl rfl (by kernel_rfl) (fun _ _ _ _ h => h.elim) ?_ ?_
            · refine ⟨?_, ?_, ?_, ?_, ?_, ?_, ?_, ?_, ?_, ?_, ?_, ?_, ?_, ?_, ?_, ?_, ?_, ?_, trivial⟩
              · intro W2 hw K hK
                go_simp
                exact hK _ _ rfl (Below.refl _ _)
              · intro W2 hw K hK
                obtain ⟨s0, k0, k1, x0, x1, x2, x3, x4⟩ := HCE.out W2 hw
                go_simp
                exact hK _ _ rfl (Below.refl _ _)
              · intro W2 hw K hK
                go_simp
                exact hK _ _ rfl (Below.refl _ _)
              · intro W2 hw K hK
                obtain ⟨s0, k0, k1, x0, x1, x2, x3, x4⟩ := HCE.out W2 hw
                go_simp
                exact hK _ _ rfl (Below.refl _ _)
              · intro W2 hw K hK
                go_simp
                exact hK _ _ rfl (Below.refl _ _)
              · intro W2 hw K hK
                obtain ⟨s0, k0, k1, x0, x1, x2, x3, x4⟩ := HCE.out W2 hw
                go_simp
                exact hK _ _ rfl (Below.refl _ _)
              · intro W2 hw K hK
                obtain ⟨s0, k0, k1, x0, x1, x2, x3, x4⟩ := HCE.out W2 hw
                go_simp
                exact hK _ _ rfl (Below.refl _ _)
              · intro W2 hw K hK
                go_simp
                refine Calls.mono (HLS.out W2) ?_
                rintro e9 w9 ⟨rfl, hb9⟩
                exact hK _ _ rfl hb9
              · intro W2 hw K hK
                go_simp
                exact hK _ _ rfl (Below.refl _ _)
              · intro W2 hw K hK
                go_simp
                exact hK _ _ rfl (Below.refl _ _)
              · intro W2 hw K hK
                go_simp
                exact hK _ _ rfl (Below.refl _ _)
              · intro W2 hw K hK
                obtain ⟨s0, k0, k1, x0, x1, x2, x3, x4⟩ := HCE.out W2 hw
                go_simp
                exact hK _ _ rfl (Below.refl _ _)
              · intro W2 hw K hK
                go_simp
                exact hK _ _ rfl (Below.refl _ _)
              · intro W2 hw K hK
                obtain ⟨s0, k0, k1, x0, x1, x2, x3, x4⟩ := HCE.out W2 hw
                go_simp
                exact hK _ _ rfl (Below.refl _ _)
              · intro W2 hw K hK
                go_simp
                exact hK _ _ rfl (Below.refl _ _)
              · intro W2 hw K hK
                go_simp
                exact hK _ _ rfl (Below.refl _ _)
              · intro W2 hw K hK
                obtain ⟨s0, k0, k1, x0, x1, x2, x3, x4⟩ := HCE.out W2 hw
                go_simp
                exact hK _ _ rfl (Below.refl _ _)
              · intro W2 hw K hK
                go_simp
                exact hK _ _ rfl (Below.refl _ _)
            · intro W2 hw2
              simp only [Behind]
              have HB6 := Lib.hid ((Below.refl _ wr).drew.trans hw2)
              have HB6d := Lib.hid hw2
              clear hw2
              simp only [List.drop, Act.put, List.setIfInBounds_toArray, List.set_cons_zero, List.set_cons_succ]
              go_wp2_with fail
              refine NoPanic.normal ?_
              have HX6 := Lib.hid (HCE.out W2 HB6d.out)
              obtain ⟨s0, k0, k1, x0, x1, x2, x3, x4⟩ := HX6.out
              have HOW : Hid (∀ o, (W2.alloc o).ownsRow W1.heap.size 46 5 (.slice A9 n9 c9) n9 (rowV En.vals O)) := Lib.hid fun o => by have h9 := (HO.out.1.below HB6.out).below ((Below.refl _ W2).alloc (Nat.le_refl _) o); unfold Eno at h9; rw [← HN9.out] at h9; exact h9
              have HB7 := Lib.hid (HO.out.2.trans (HB6.out.mono HO.out.2.size))
              have HBB : Hid (∀ o, W1.heap.size ≤ (W2.alloc o).heap.size) := Lib.hid fun o => Nat.le_trans HB7.out.size ((Below.refl _ W2).alloc (Nat.le_refl _) o).size
              have HRV : Hid (∀ T, Rdv (W2.alloc (.cells #[.int .i64 (e.t : Int), .int .i64 e.x.k, .int .i64 e.x.c.v, .int .i64 e.x.c.s, .bool false] T)) (some ⟨W2.heap.size, 0, none⟩) 1 5 e.vals) := Lib.hid fun T => by have h9 := rdv_freshE W2 e T; rw [← HVD.out] at h9; exact h9
              go_wp2_with (at_builtin; refine wpList_append_rowg elemEn rfl (.tmp 41) (.tmp 47) rfl W1.heap.size (.slice A9 n9 c9) n9 (rowV En.vals O) rfl (HOW.out _) (some ⟨W2.heap.size, 0, none⟩) 1 1 (En.vals e) rfl (HRV.out _) (en1 _) (fun h => by cases h) (by have := HNB.out; unfold maxLen; omega) (by have := HNB.out; omega) (HBB.out _) ?_; intro v' w' ho hg hq; obtain ⟨A8, c8, rfl⟩ := own_form ho; have HO8 := Lib.hid ho; have HB8 := Lib.hid (below_appW HB7.out (HO.out.1.below HB6.out) (by rw [← HN9.out]; exact hg)); clear ho hg hq)
              go_roundw
              case rel =>
                refine ⟨z + 1, O ++ [e], by go_num, by omega, ?_, ?_, ?_, ?_, HB8.out⟩
                · rw [← HE.out.1, HDA.out, List.filter_cons_of_pos HI.out]
                  obtain ⟨y, hy⟩ : ∃ y, N - O.length = y + 1 := ⟨N - O.length - 1, by have := HLT.out; omega⟩
                  have hy2 : N - (O ++ [e]).length = y := by simp; omega
                  rw [hy, hy2, List.take_succ_cons]
                  simp
                · have := HLT.out; simp; omega
                · have := HE.out.2.2; simp; omega
                · show World.ownsRow _ _ _ _ _ (O ++ [e]).length _
                  rw [List.length_append, ← HN9.out, rowV_append]
                  simpa [rowV] using HO8.out
              case measure => simp [intOf]; omega
      · have HRR : Hid (O = RES) := Lib.hid (by
          have h9 := HE.out.1
          have h8 : N - O.length = 0 := by rw [HNN.out, ← HN9.out]; omega
          rw [h8] at h9
          simpa using h9)
        clear ho hb
        go_wp2_with fail
        go_ret
        refine ⟨_, rfl, ?_, HBW.out.1.trans (HO.out.2.mono HBW.out.1.size)⟩
        rw [← HRR.out]
        have h9 := HO.out.1
        unfold Eno at h9
        rw [← HN9.out] at h9
        unfold Eno
        rw [← HN9.out]
        exact own_down h9 HBW.out.1.size
    · obtain rfl : z = n := by omega
      have HRR : Hid (O = RES) := Lib.hid (by
        have h9 := HE.out.1
        rw [List.drop_of_length_le (by rw [← HN.out.1]; exact Nat.le_refl _)] at h9
        simpa using h9)
      clear ho hb
      go_wp2_with fail
      go_ret
      refine ⟨_, rfl, ?_, HBW.out.1.trans (HO.out.2.mono HBW.out.1.size)⟩
      rw [← HRR.out]
      have h9 := HO.out.1
      unfold Eno at h9
      rw [← HN9.out] at h9
      unfold Eno
      rw [← HN9.out]
      exact own_down h9 HBW.out.1.size
end Go.Proofs.Ytejpjbmbcdgomaa
