/- SStands, WOver, WCopy: put together. -/
import Derived.Test.YtejpjbmbcdgomaaPc33
import Derived.Test.YtejpjbmbcdgomaaPc28
import Derived.Test.YtejpjbmbcdgomaaPc37
import Derived.Laws.MakeOwn
/- The law's stands: a store stands as the document says. Written by gen_sstands.py. -/
namespace Go.Proofs.Ytejpjbmbcdgomaa
set_option maxRecDepth 100000
open Go.RowKit

theorem getC_mem : ∀ {l : List Ix}, Up l → ∀ {x : Ix}, x ∈ l → getC x.k l = some x.c
  | y :: l, h, x, hx => by
    obtain ⟨h1, h2⟩ := List.pairwise_cons.1 h
    rw [getC_cons]
    rcases List.mem_cons.1 hx with e | e
    · rw [if_pos (by rw [e]), e]
    · rw [if_neg (by have := h1 x e; omega)]
      exact getC_mem h2 e
theorem cellAt_mem {ts : Tb} (hu : ∀ i, i < 4 → Up (ts i)) {e : En} (he : e ∈ ents ts) : cellAt ts (e.t : Int) e.x.k = some e.x.c := by
  obtain ⟨_, h2, h3⟩ := mem_allE he
  rw [cellAt_in ⟨by omega, by omega⟩, Int.toNat_natCast]
  exact getC_mem (hu _ (by omega)) h3
set_option maxHeartbeats 16000000 in
theorem stands_any {w : World} {G : Nat → Prop} {sb : Nat} {ts : Tb} {last : Int} {A : Option Addr} {c : Nat} (hM : SM w G sb ts (liveT ts : Int) last) (h : Ens w A (ents ts)) (hN : ∀ i, i < 4 → (ts i).length ≤ 25000) (hnum : NumT ts) :
    Calls Try.prog 26 #[.pointer (some ⟨sb, 0, none⟩), .agg #[.slice A (ents ts).length c, .int .i64 last]] w fun e w' => e = .returned (.bool true) ∧ Below w.heap.size w w' := by
  have hlen : (ents ts).length ≤ 100000 := by have := ents_len hN; omega
  have hup := hM.up
  obtain ⟨n, hn⟩ : ∃ n, n = (ents ts).length := ⟨_, rfl⟩
  obtain ⟨W1, hW1⟩ : ∃ W1, W1 = w.alloc (.cells #[.slice A n c, .int .i64 last] 31) := ⟨_, rfl⟩
  obtain ⟨p3, hp3⟩ : ∃ p3, p3 = w.heap.size := ⟨_, rfl⟩
  have b0 : W1.heap[p3]? = some (.cells #[.slice A n c, .int .i64 last] 31 (0, 0)) := by rw [hW1, hp3]; exact heap_alloc_new w _
  have bb : Below w.heap.size w W1 := by rw [hW1]; exact (Below.refl _ _).alloc (Nat.le_refl _) _
  have HW := Lib.hid hW1
  have HP := Lib.hid hp3
  have HC : Hid (∀ wr, Below W1.heap.size W1 wr → wr.cell? ⟨p3, 0, none⟩ = some (.slice A n c) ∧ wr.cell? ⟨p3, 1, none⟩ = some (.int .i64 last) ∧ SM wr G sb ts (liveT ts : Int) last ∧ Ens wr A (ents ts)) := Lib.hid fun wr hb => by
    have e0 := (hb.block p3 (Array.getElem?_eq_some_iff.1 b0).1).trans b0
    have hbb := bb.trans (hb.mono bb.size)
    exact ⟨by rw [cell_of_row _ _ 0 _ _ _ e0]; rfl, by rw [cell_of_row _ _ 1 _ _ _ e0]; rfl, hM.below hbb, RowAt.below h hbb⟩
  obtain ⟨l, hl⟩ : ∃ l, l = ents ts := ⟨_, rfl⟩
  have HL := Lib.hid hl
  rw [← hl] at hn hlen
  rw [← hl, ← hn]
  rw [← hl] at HC
  have HN := Lib.hid (And.intro hn hlen)
  have HIN := Lib.hid (And.intro hup (And.intro hN (And.intro hnum bb)))
  have y0 := (HC.out W1 (Below.refl _ _)).1
  have y1 := (HC.out W1 (Below.refl _ _)).2.1
  clear hW1 hp3 b0 bb hn hlen hM h hN hnum hl hup
  go_enter Try.func26, Try.ntmps26
  go_upto_region 1 with fail
  rw [← HW.out, ← HP.out]
  go_wp2_with fail
  clear y0 y1
  go_loopw [6, 7, 8, 9, 10, 11, 12, 16, 17, 18, 19, 20, 21, 22, 23, 24, 25, 26, 27, 28, 29, 30, 31, 32, 33, 34, 35, 36, 37, 38, 39, 40, 41, 42, 43, 44, 45, 46, 47, 48, 49, 50, 51, 52, 53, 54, 55, 56, 57, 58, 59] (fun _ _ _ _ _ _ _ ix _ _ _ _ _ _ _ _ _ _ _ _ _ _ _ _ _ _ _ _ _ _ _ _ _ _ _ _ _ _ _ _ _ _ _ _ _ _ _ _ _ _ _ wr => ∃ z : Nat, ix = .int .i64 (z : Int) ∧ z ≤ n ∧ Below W1.heap.size W1 wr) (fun _ _ _ _ _ _ _ ix _ _ _ _ _ _ _ _ _ _ _ _ _ _ _ _ _ _ _ _ _ _ _ _ _ _ _ _ _ _ _ _ _ _ _ _ _ _ _ _ _ _ _ wr => n - (intOf ix).toNat)
  case atStart => exact ⟨0, rfl, Nat.zero_le _, Below.refl _ _⟩
  case round =>
    obtain ⟨z, rfl, hz, hb⟩ := hrel
    have HB := Lib.hid hb
    by_cases hlt : z < n
    · have hzl : z < l.length := by rw [← HN.out.1]; exact hlt
      obtain ⟨b, off, rfl, hcl⟩ := Ens.cell (HC.out wr hb).2.2.2 (by omega)
      obtain ⟨x0, x1, x2, x3, x4⟩ := hcl z hzl
      obtain ⟨e, hx0⟩ : ∃ e, e = l[z] := ⟨_, rfl⟩
      have hem : e ∈ ents ts := by rw [← HL.out, hx0]; exact List.getElem_mem hzl
      have hca := cellAt_mem HIN.out.1 hem
      have HCA := Lib.hid hca
      have HNV := Lib.hid (getN_gv (some e.x.c))
      rw [← hx0] at x0 x1 x2 x3 x4
      have hnb : n ≤ 100000 := by rw [HN.out.1]; exact HN.out.2
      obtain ⟨p6, hp6⟩ : ∃ p6, p6 = wr.heap.size := ⟨_, rfl⟩
      obtain ⟨we, hwe⟩ : ∃ we, we = wr.alloc (.cells #[.int .i64 (e.t : Int), .int .i64 e.x.k, .int .i64 e.x.c.v, .int .i64 e.x.c.s, .bool e.x.c.dead] 46) := ⟨_, rfl⟩
      have hbe : Below wr.heap.size wr we := by rw [hwe]; exact (Below.refl _ _).alloc (Nat.le_refl _) _
      have hE6 : we.heap[p6]? = some (enO e) := by rw [hwe, hp6]; exact heap_alloc_new wr _
      have HBE : Hid (Below W1.heap.size W1 we ∧ we.heap[p6]? = some (enO e)) := Lib.hid ⟨hb.trans (hbe.mono hb.size), hE6⟩
      have HWE := Lib.hid hwe
      have HP6 := Lib.hid hp6
      obtain ⟨C, hC⟩ : ∃ C, C = e.x.c := ⟨_, rfl⟩
      have HCC := Lib.hid hC
      clear hcl hx0 hzl hwe hp6 hb hem hca hbe
      go_upto_region 4 with fail
      rw [← HWE.out, ← HP6.out]
      clear x0 x1 x2 x3 x4
      have m0 : we.cell? ⟨p6, 0, none⟩ = some (.int .i64 (e.t : Int)) := by rw [cell_of_row _ _ 0 _ _ _ hE6]; rfl
      have m1 : we.cell? ⟨p6, 1, none⟩ = some (.int .i64 e.x.k) := by rw [cell_of_row _ _ 1 _ _ _ hE6]; rfl
      clear hE6
      have HCE := Lib.hid (cell_any (HC.out we HBE.out.1).2.2.1 (e.t : Int) e.x.k)
      rw [HCA.out, show ansC (some e.x.c) = .tuple #[.agg #[.int .i64 e.x.c.v, .int .i64 e.x.c.s, .bool e.x.c.dead], .bool true] from rfl] at HCE
      have HEF : Hid (∀ w', Below we.heap.size we w' → w'.cell? ⟨p6, 0, none⟩ = some (.int .i64 (e.t : Int)) ∧ w'.cell? ⟨p6, 1, none⟩ = some (.int .i64 e.x.k) ∧ w'.cell? ⟨p6, 2, none⟩ = some (.int .i64 e.x.c.v) ∧ w'.cell? ⟨p6, 3, none⟩ = some (.int .i64 e.x.c.s) ∧ w'.cell? ⟨p6, 4, none⟩ = some (.bool e.x.c.dead) ∧ w'.cell? ⟨p3, 0, none⟩ = some (.slice (some ⟨b, off, none⟩) n c) ∧ w'.cell? ⟨p3, 1, none⟩ = some (.int .i64 last) ∧ SM w' G sb ts (liveT ts : Int) last ∧ Ens w' (some ⟨b, off, none⟩) l) := Lib.hid fun w' hb => by
        have h9 := (hb.block p6 (Array.getElem?_eq_some_iff.1 HBE.out.2).1).trans HBE.out.2
        unfold enO at h9
        obtain ⟨q0, q1, q2, q3⟩ := HC.out w' (HBE.out.1.trans (hb.mono HBE.out.1.size))
        exact ⟨by rw [cell_of_row _ _ 0 _ _ _ h9]; rfl, by rw [cell_of_row _ _ 1 _ _ _ h9]; rfl, by rw [cell_of_row _ _ 2 _ _ _ h9]; rfl, by rw [cell_of_row _ _ 3 _ _ _ h9]; rfl, by rw [cell_of_row _ _ 4 _ _ _ h9]; rfl, q0, q1, q2, q3⟩
      go_wp2_with fail
      refine Calls.mono HCE.out ?_
      rintro e9 w2 ⟨rfl, hb2⟩
      clear m0 m1
      have HB2 := Lib.hid hb2
      clear hb2
      obtain ⟨p7, hp7⟩ : ∃ p7, p7 = w2.heap.size := ⟨_, rfl⟩
      obtain ⟨w3, hw3⟩ : ∃ w3, w3 = w2.alloc (.cells #[.int .i64 e.x.c.v, .int .i64 e.x.c.s, .bool e.x.c.dead] 44) := ⟨_, rfl⟩
      have hbb : Below w2.heap.size w2 w3 := by rw [hw3]; exact (Below.refl _ _).alloc (Nat.le_refl _) _
      have h7 : w3.heap[p7]? = some (.cells #[.int .i64 e.x.c.v, .int .i64 e.x.c.s, .bool e.x.c.dead] 44 (0, 0)) := by rw [hw3, hp7]; exact heap_alloc_new w2 _
      have HB3 : Hid (Below we.heap.size we w3 ∧ w3.heap[p7]? = some (.cells #[.int .i64 e.x.c.v, .int .i64 e.x.c.s, .bool e.x.c.dead] 44 (0, 0))) := Lib.hid ⟨HB2.out.trans (hbb.mono HB2.out.size), h7⟩
      have HW3 := Lib.hid hw3
      have HP7 := Lib.hid hp7
      clear hbb h7 hw3 hp7
      go_upto_region 5 with fail
      rw [← HW3.out, ← HP7.out]
      have HGE := Lib.hid (sget_any (HEF.out w3 HB3.out.1).2.2.2.2.2.2.2.1 (e.t : Int) e.x.k)
      rw [HCA.out] at HGE
      obtain ⟨m0, m1, _⟩ := HEF.out w3 HB3.out.1
      go_wp2_with fail
      refine Calls.mono HGE.out ?_
      rintro e9 w4 ⟨rfl, hb4⟩
      have HB4 : Hid (Below we.heap.size we w4 ∧ w4.heap[p7]? = some (.cells #[.int .i64 e.x.c.v, .int .i64 e.x.c.s, .bool e.x.c.dead] 44 (0, 0))) := Lib.hid ⟨HB3.out.1.trans (hb4.mono HB3.out.1.size), (hb4.block p7 (Array.getElem?_eq_some_iff.1 HB3.out.2).1).trans HB3.out.2⟩
      clear hb4 m0 m1
      obtain ⟨m0, m1, _, _, _, m5, m6, _, hens⟩ := HEF.out w4 HB4.out.1
      have HRG := Lib.hid (r9get_any (c := c) (last := last) hens HN.out.2 (e.t : Int) e.x.k)
      clear hens
      rw [show cellE (e.t : Int) e.x.k l = some e.x.c by rw [HL.out, cellE_ents, HCA.out], (getN_gv _).1, (getN_gv _).2, ← HN.out.1] at HRG
      go_wp2_with fail
      refine Calls.mono HRG.out ?_
      rintro e9 w5 ⟨rfl, hb5⟩
      have HB5 : Hid (Below we.heap.size we w5 ∧ w5.heap[p7]? = some (.cells #[.int .i64 e.x.c.v, .int .i64 e.x.c.s, .bool e.x.c.dead] 44 (0, 0))) := Lib.hid ⟨HB4.out.1.trans (hb5.mono HB4.out.1.size), (hb5.block p7 (Array.getElem?_eq_some_iff.1 HB4.out.2).1).trans HB4.out.2⟩
      clear hb5 m0 m1 m5 m6
      obtain ⟨m0, m1, m2, m3, m4, _⟩ := HEF.out w5 HB5.out.1
      have n0 : w5.cell? ⟨p7, 0, none⟩ = some (.int .i64 e.x.c.v) := by rw [cell_of_row _ _ 0 _ _ _ HB5.out.2]; rfl
      have n1 : w5.cell? ⟨p7, 1, none⟩ = some (.int .i64 e.x.c.s) := by rw [cell_of_row _ _ 1 _ _ _ HB5.out.2]; rfl
      have n2 : w5.cell? ⟨p7, 2, none⟩ = some (.bool e.x.c.dead) := by rw [cell_of_row _ _ 2 _ _ _ HB5.out.2]; rfl
      go_wp2_with fail
      go_roundw
      case rel => exact ⟨z + 1, by go_num, by omega, HBE.out.1.trans (HB5.out.1.mono HBE.out.1.size)⟩
      case measure => simp [intOf]; omega
    · obtain rfl : z = n := by omega
      obtain ⟨s0, s1, hsm, hens⟩ := HC.out wr hb
      have HCE : Hid (∀ W2, Below wr.drew.heap.size wr.drew W2 → W2.cell? ⟨p3, 0, none⟩ = some (.slice A z c) ∧ W2.cell? ⟨p3, 1, none⟩ = some (.int .i64 last)) := Lib.hid fun W2 hw => by
        obtain ⟨q0, q1, _⟩ := HC.out W2 (hb.trans (((Below.refl _ _).drew.trans hw).mono hb.size))
        exact ⟨q0, q1⟩
      have hw2 : ∀ W2, Below wr.drew.heap.size wr.drew W2 → Below wr.heap.size wr W2 := fun W2 hw => (Below.refl _ _).drew.trans hw
      have HLV := Lib.hid (fun W2 hw => slive_any (hsm.below (hw2 W2 hw)))
      have HLA := Lib.hid (fun W2 hw => slast_any (hsm.below (hw2 W2 hw)))
      have HRL := Lib.hid (fun W2 hw => r9live_any (c := c) (last := last) (RowAt.below hens (hw2 W2 hw)) HN.out.2)
      have hlv : (liveE l).length = liveT ts := by rw [HL.out, liveE_ents]
      rw [hlv, ← HN.out.1] at HRL
      obtain ⟨xs, hxs⟩ : ∃ xs, xs = putB ts := ⟨_, rfl⟩
      obtain ⟨m, hm⟩ : ∃ m, m = xs.length := ⟨_, rfl⟩
      have HSM : Hid (∀ x ∈ xs, x < 256) := Lib.hid (by rw [hxs]; exact putB_small HIN.out.2.2.1)
      have HPU : Hid (∀ W2, Below wr.drew.heap.size wr.drew W2 → Calls Try.prog 28 #[.pointer (some ⟨sb, 0, none⟩)] W2 fun e w' => ∃ v, e = .returned v ∧ (∃ A9 c9, v = .slice A9 m c9 ∧ Rdv w' A9 m 1 (valsB xs)) ∧ Below W2.heap.size W2 w') := Lib.hid fun W2 hw => by
        refine Calls.mono (sput_any (hsm.below (hw2 W2 hw)) (fun i hi => Nat.le_trans (HIN.out.2.1 i hi) (by decide)) HIN.out.2.2.1) ?_
        rintro e9 w9 ⟨A9, c9, rfl, r9, _, b9⟩
        rw [← hxs, ← hm] at r9
        rw [← hxs, ← hm]
        exact ⟨_, rfl, ⟨A9, c9, rfl, r9⟩, b9⟩
      have HRP : Hid (∀ W2, Below wr.drew.heap.size wr.drew W2 → Calls Try.prog 37 #[.agg #[.slice A z c, .int .i64 last]] W2 fun e w' => ∃ v, e = .returned v ∧ (∃ A9 c9, v = .slice A9 m c9 ∧ Rdv w' A9 m 1 (valsB xs)) ∧ Below W2.heap.size W2 w') := Lib.hid fun W2 hw => by
        rw [HN.out.1]
        refine Calls.mono (r9text_any (c := c) (last := last) (RowAt.below hens (hw2 W2 hw)) HN.out.2 (fun e he => HIN.out.2.2.1.ents e (by rw [← HL.out]; exact he))) ?_
        rintro e9 w9 ⟨v9, rfl, h9, b9⟩
        obtain ⟨A9, c9, rfl, r9, _, _⟩ := OwnB.rdv h9
        have e8 : txtE l = xs := by rw [hxs, HL.out, txtE_ents]
        rw [e8, ← hm] at r9
        rw [e8, ← hm]
        exact ⟨_, rfl, ⟨A9, c9, rfl, r9⟩, b9⟩
      obtain ⟨lv, hlvn⟩ : ∃ lv, lv = liveT ts := ⟨_, rfl⟩
      rw [← hlvn] at HLV HRL
      have HBW := Lib.hid (HIN.out.2.2.2.trans (hb.mono HIN.out.2.2.2.size))
      clear hsm hens hlv hlvn hxs hm hw2 hb
      go_upto_region 10 with fail
      clear s0 s1
      refine wp_region_noPanic ?_
      refine wp_region_abs 19 79 [
        .is (.pointer (some ⟨sb, 0, none⟩)),
        .is (.int .i64 (lv : Int)),
        .is (.agg #[.slice A z c, .int .i64 last]),
        .is (.int .i64 (lv : Int)),
        .is (.bool true),
        .is (.bool true),
        .is (.pointer (some ⟨sb, 0, none⟩)),
        .is (.int .i64 last),
        .is (.pointer (some ⟨p3, 1, none⟩)),
        .is (.int .i64 last),
        .is (.bool true),
        .is (.bool true),
        .is (.bool true),
        .is (.pointer (some ⟨sb, 0, none⟩)),
        .tells (fun _ v _ wa => ∃ A9 c9, v = .slice A9 m c9 ∧ Rdv wa A9 m 1 (valsB xs)),
        .is (.agg #[.slice A z c, .int .i64 last]),
        .tells (fun _ v _ wa => ∃ A9 c9, v = .slice A9 m c9 ∧ Rdv wa A9 m 1 (valsB xs)),
        .is (.bool true),
        .is (.bool true)]
        [60, 61, 62, 63, 64, 65, 66, 67, 68, 69, 70, 71, 72, 73, 74, 75, 76, 77, 78]
        [[], [0], [], [2], [1, 3], [4], [5], [6, 5], [5], [8, 5], [7, 9, 5], [5, 10], [11], [12], [13, 12], [12], [15, 12], [14, 16, 12], [12, 17]] (by kernel_rfl) (by rfl) rfl rfl (by kernel_rfl) (fun _ _ _ _ h => h.elim) ?_ ?_
      · refine ⟨?_, ?_, ?_, ?_, ?_, ?_, ?_, ?_, ?_, ?_, ?_, ?_, ?_, ?_, ?_, ?_, ?_, ?_, ?_, trivial⟩
        · intro W2 hw K hK
          go_simp
          exact hK _ _ rfl (Below.refl _ _)
        · intro W2 hw K hK
          go_simp
          refine Calls.mono (HLV.out W2 hw) ?_
          rintro e9 w9 ⟨rfl, rfl⟩
          exact hK _ _ rfl (Below.refl _ _)
        · intro W2 hw K hK
          obtain ⟨s0, s1⟩ := HCE.out W2 hw
          go_simp
          exact hK _ _ rfl (Below.refl _ _)
        · intro W2 hw K hK
          go_simp
          refine Calls.mono (HRL.out W2 hw) ?_
          rintro e9 w9 ⟨rfl, hb9⟩
          exact hK _ _ rfl hb9
        · intro W2 hw K hK
          go_simp
          exact hK _ _ rfl (Below.refl _ _)
        · intro W2 hw K hK
          go_simp
          exact hK _ _ rfl (Below.refl _ _)
        · intro W2 hw K hK
          go_simp
          exact hK _ _ rfl (Below.refl _ _)
        · intro W2 hw K hK
          go_simp
          refine Calls.mono (HLA.out W2 hw) ?_
          rintro e9 w9 ⟨rfl, rfl⟩
          exact hK _ _ rfl (Below.refl _ _)
        · intro W2 hw K hK
          go_simp
          exact hK _ _ rfl (Below.refl _ _)
        · intro W2 hw K hK
          obtain ⟨s0, s1⟩ := HCE.out W2 hw
          go_simp
          exact hK _ _ rfl (Below.refl _ _)
        · intro W2 hw K hK
          go_simp
          exact hK _ _ rfl (Below.refl _ _)
        · intro W2 hw K hK
          go_simp
          exact hK _ _ rfl (Below.refl _ _)
        · intro W2 hw K hK
          go_simp
          exact hK _ _ rfl (Below.refl _ _)
        · intro W2 hw K hK
          go_simp
          exact hK _ _ rfl (Below.refl _ _)
        · intro W2 hw K hK
          go_simp
          refine Calls.mono (HPU.out W2 hw) ?_
          rintro e9 w9 ⟨v9, rfl, h9, hb9⟩
          exact hK _ _ h9 hb9
        · intro W2 hw K hK
          obtain ⟨s0, s1⟩ := HCE.out W2 hw
          go_simp
          exact hK _ _ rfl (Below.refl _ _)
        · intro W2 hw K hK
          go_simp
          refine Calls.mono (HRP.out W2 hw) ?_
          rintro e9 w9 ⟨v9, rfl, h9, hb9⟩
          exact hK _ _ h9 hb9
        · intro W2 hw v14 wb14 wa14 hF14 hx14 v16 wb16 wa16 hF16 hx16 K hK
          obtain ⟨A14, c14, rfl, r14⟩ := hF14.choose_spec
          obtain ⟨A16, c16, rfl, r16⟩ := hF16.choose_spec
          have s14 := r14.ext fun _ hp => hx14.cell hp
          have s16 := r16.ext fun _ hp => hx16.cell hp
          go_simp
          refine Calls.mono (same_any A14 A16 m c14 m c16 xs xs W2 s14 s16 HSM.out HSM.out) ?_
          rintro e9 w9 ⟨rfl, rfl⟩
          rw [decide_eq_true (rfl : xs = xs)]
          exact hK _ _ rfl (Below.refl _ _)
        · intro W2 hw K hK
          go_simp
          exact hK _ _ rfl (Below.refl _ _)
      · intro W2 hw2
        simp only [Behind]
        intro v14 wb14 wa14 _ _ _ _ v16 wb16 wa16 _ _ _ _
        have HB2 := Lib.hid ((Below.refl _ wr).drew.trans hw2)
        clear hw2
        simp only [List.drop, Act.put, List.setIfInBounds_toArray, List.set_cons_zero, List.set_cons_succ]
        go_wp2_with fail
        refine NoPanic.normal ?_
        go_wp2_with fail
        go_ret
        exact ⟨rfl, HBW.out.trans (HB2.out.mono HBW.out.size)⟩
end Go.Proofs.Ytejpjbmbcdgomaa

/- The contract of num.Over: bytes are written over. -/
namespace Go.Proofs.Ytejpjbmbcdgomaa
set_option maxRecDepth 100000
open Go.RowKit

theorem xor255 (b : Nat) (hb : b < 256) : bits BinOp.xor IntKind.u8 (b : Int) 255 = ((255 - b : Nat) : Int) := by
  have key : ∀ y : Fin 256, bits BinOp.xor IntKind.u8 (y.val : Int) 255 = ((255 - y.val : Nat) : Int) := by decide +kernel
  exact key ⟨b, hb⟩
/-- A block of bytes, none of them frozen, of which n from off on are known as bytes. -/
def Bt (w : World) (q off n : Nat) : Prop := ∃ cs, w.heap[q]? = some (.cells cs 5 (0, 0)) ∧ ∀ j, j < n → ∃ x : Nat, x < 256 ∧ cs[off + j]? = some (.int .u8 (x : Int))
theorem Bt.of {w : World} {A : Option Addr} {q off n : Nat} {bs : List Nat} (h : Rdv w A n 1 (valsB bs)) (hs : ∀ x ∈ bs, x < 256) (hA : A = some ⟨q, off, none⟩) {cs : Array Value} (hb : w.heap[q]? = some (.cells cs 5 (0, 0))) : Bt w q off n := by
  refine ⟨cs, hb, fun j hj => ?_⟩
  obtain ⟨b, o, e, hc⟩ := h.2 (by omega)
  rw [hA] at e
  injection e with e
  injection e with e1 e2
  subst e1 e2
  have hl : bs.length = n := by have := h.1; rw [valsB_length] at this; omega
  have hjl : j < bs.length := by omega
  refine ⟨bs[j], hs _ (List.getElem_mem hjl), ?_⟩
  have := hc j _ (show (valsB bs)[j]? = some (.int .u8 ((bs[j] : Nat) : Int)) by rw [valsB_get, List.getElem?_eq_getElem hjl]; rfl)
  rw [cell_of_row w q _ cs 5 (0, 0) hb] at this
  exact this

set_option maxHeartbeats 1000000 in
theorem over_any (A : Option Addr) (q off n c : Nat) (w : World) (hA : 0 < n → A = some ⟨q, off, none⟩ ∧ Bt w q off n) (hn : n ≤ 140737488355328) :
    Calls Try.prog 25 #[.slice A n c] w fun e w' => e = .returned (.tuple #[]) ∧ OnlyG w w' q := by
  rcases Nat.eq_zero_or_pos n with rfl | hp
  · clear hA
    go_enter Try.func25, Try.ntmps25
    go_wp2_with fail
    refine wp_loop_rounds 1 ?_
    rw [rounds_succ]
    go_wp2_with fail
    exact bodyPost_end (v := .tuple #[]) (by simp [results, Try.results25, go_sem]) rfl ⟨rfl, Only.refl _ _⟩
  · obtain ⟨rfl, hb⟩ := hA hp
    have HB := Lib.hid hb
    clear hA hb
    go_enter Try.func25, Try.ntmps25
    go_wp2_with fail
    go_loopw [5] (fun i wr => ∃ k : Nat, i = .int .i64 (k : Int) ∧ k ≤ n ∧ Bt wr q off n ∧ OnlyG w wr q) (fun i _ => n - (intOf i).toNat)
    case atStart => exact ⟨0, rfl, by omega, HB.out, Only.refl _ _⟩
    case round =>
      obtain ⟨k, rfl, hk, hbt, ho⟩ := hrel
      have HO := Lib.hid ho
      clear ho
      by_cases hlt : k < n
      · obtain ⟨cs, hcs, hx⟩ := hbt
        obtain ⟨x, hx256, hxk⟩ := hx k hlt
        have c0 : wr.cell? ⟨q, off + k, none⟩ = some (.int .u8 (x : Int)) := by rw [cell_of_row wr q _ cs 5 (0, 0) hcs]; exact hxk
        have f0 : wr.frozen? ⟨q, off + k, none⟩ = false := by simp [World.frozen?, hcs]
        have e1 := xor255 x hx256
        have hlc : off + k < cs.size := by
          rcases Nat.lt_or_ge (off + k) cs.size with h | h
          · exact h
          · rw [Array.getElem?_eq_none h] at hxk; cases hxk
        have hbt' : Bt (wr.setCell ⟨q, off + k, none⟩ (.int .u8 ((255 - x : Nat) : Int))) q off n := by
          refine ⟨cs.setIfInBounds (off + k) (.int .u8 ((255 - x : Nat) : Int)), by simp [World.setCell, Array.getElem?_modify, hcs], fun j hj => ?_⟩
          rw [Array.getElem?_setIfInBounds]
          by_cases hjk : off + k = off + j
          · rw [if_pos hjk, if_pos hlc]
            exact ⟨255 - x, by omega, rfl⟩
          · rw [if_neg hjk]
            exact hx j hj
        have HB' := Lib.hid hbt'
        obtain ⟨y, hy⟩ : ∃ y, y = 255 - x := ⟨_, rfl⟩
        rw [← hy] at e1 HB'
        clear hbt' hx hcs hxk hy
        go_wp2_with fail
        go_roundw
        case rel => exact ⟨k + 1, by go_num, by omega, HB'.out, HO.out.trans ⟨rfl, rfl, rfl, by rw [World.size_setCell]; exact Nat.le_refl _, fun j _ hv => Deep.blk_setCell_other wr ⟨q, off + k, none⟩ _ j (fun he => hv (by rw [he]))⟩⟩
        case measure => simp [intOf]; omega
      · clear hbt
        go_wp2_with fail
        exact bodyPost_end (v := .tuple #[]) (by simp [results, Try.results25, go_sem]) rfl ⟨rfl, HO.out⟩
end Go.Proofs.Ytejpjbmbcdgomaa

/- The contracts of num.Copy and num.Kept: a copy with two marks behind it, and the look at them. -/
namespace Go.Proofs.Ytejpjbmbcdgomaa
set_option maxRecDepth 100000
open Go.RowKit

/-- A copy: its bytes, and two marks in its spare room, in a block of its own. -/
structure Mk (w : World) (g n cap : Nat) (xs : List Nat) : Prop where
  len : xs.length = n
  cap : n + 2 ≤ cap
  block : ∃ cs, w.heap[g]? = some (.cells cs 5 (0, 0)) ∧ ∀ j, j < n + 2 → cs[j]? = some (.int .u8 (((xs ++ [165, 90]).getD j 0 : Nat) : Int))
theorem Mk.cells {w : World} {g n cap : Nat} {xs : List Nat} (h : Mk w g n cap xs) (j : Nat) (hj : j < n + 2) : w.cell? ⟨g, j, none⟩ = some (.int .u8 (((xs ++ [165, 90]).getD j 0 : Nat) : Int)) := by
  obtain ⟨cs, hb, hc⟩ := h.block
  rw [cell_of_row w g j cs 5 (0, 0) hb]
  exact hc j hj
theorem Mk.row {w : World} {g n cap : Nat} {xs : List Nat} (h : Mk w g n cap xs) : Rdv w (some ⟨g, 0, none⟩) n 1 (valsB xs) := by
  have hl := h.len
  refine ⟨by rw [valsB_length]; omega, fun _ => ⟨g, 0, rfl, fun j u hj => ?_⟩⟩
  rw [valsB_get] at hj
  cases hx : xs[j]? with
  | none => rw [hx] at hj; cases hj
  | some x =>
    rw [hx] at hj
    cases hj
    have hjl := (List.getElem?_eq_some_iff.1 hx).1
    rw [Nat.zero_add, h.cells j (by omega)]
    simp [List.getD_eq_getElem?_getD, List.getElem?_append_left hjl, hx]
theorem Mk.lt {w : World} {g n cap : Nat} {xs : List Nat} (h : Mk w g n cap xs) : g < w.heap.size := by
  obtain ⟨cs, hb, _⟩ := h.block
  exact (Array.getElem?_eq_some_iff.1 hb).1
theorem Mk.at {w w' : World} {g n cap : Nat} {xs : List Nat} (h : Mk w g n cap xs) (hb : w'.heap[g]? = w.heap[g]?) : Mk w' g n cap xs := by
  obtain ⟨cs, h1, h2⟩ := h.block
  exact ⟨h.len, h.cap, cs, hb.trans h1, h2⟩
theorem Mk.bt {w : World} {g n cap : Nat} {xs : List Nat} (h : Mk w g n cap xs) (hs : ∀ x ∈ xs, x < 256) : Bt w g 0 n := by
  obtain ⟨cs, h1, _⟩ := h.block
  exact Bt.of h.row hs rfl h1
theorem rdv_two (w : World) : Rdv (w.alloc (.cells #[Value.int .u8 165, Value.int .u8 90] 5)) (some ⟨w.heap.size, 0, none⟩) 2 1 (valsB [165, 90]) := by
  refine ⟨rfl, fun _ => ⟨_, _, rfl, fun j u hj => ?_⟩⟩
  rw [cell_of_row _ _ _ _ 5 (0, 0) (heap_alloc_new w (.cells #[.int .u8 165, .int .u8 90] 5 (0, 0)))]
  rw [Nat.zero_add]
  exact (show (#[Value.int .u8 165, .int .u8 90])[j]? = (valsB [165, 90])[j]? by simp [valsB]).trans hj
theorem mk_of_own {w : World} {B n : Nat} {v : Value} {xs : List Nat} (h : OwnB w B v ([] ++ xs ++ [165, 90])) (hl : xs.length = n) :
    ∃ g cap, v = .slice (some ⟨g, 0, none⟩) (n + 2) cap ∧ Mk w g n cap xs ∧ B ≤ g ∧ cap ≤ 9223372036854775807 := by
  have hlen : ([] ++ xs ++ [165, 90]).length = n + 2 := by simp [hl]
  rcases h.2 with ⟨rfl, h0⟩ | ⟨g, cap, cur, rfl, hB, hg, h1, h2, h3, h4⟩
  · omega
  · rw [hlen] at h1
    unfold maxLen at h2
    refine ⟨g, cap, by rw [hlen], ⟨hl, h1, cur, hg, fun j hj => ?_⟩, hB, h2⟩
    have hc := h.cells (g := g) rfl j (.int .u8 (((xs ++ [165, 90]).getD j 0 : Nat) : Int)) (by
      rw [valsB_get, List.nil_append, List.getElem?_eq_getElem (show j < (xs ++ [165, 90]).length by simp [hl]; omega)]
      simp [List.getD_eq_getElem?_getD, List.getElem?_eq_getElem (show j < (xs ++ [165, 90]).length by simp [hl]; omega)])
    rw [addr_plus, Nat.zero_add, cell_of_row w g j cur 5 (0, 0) hg] at hc
    exact hc

set_option maxHeartbeats 1000000 in
theorem bcopy_any (A : Option Addr) (n c : Nat) (xs : List Nat) (w : World) (hb : Rdv w A n 1 (valsB xs)) (hnil : A = none → c = 0) (hn : n ≤ 8796093000000) :
    Calls Try.prog 20 #[.slice A n c] w fun e w' => ∃ g cap, e = .returned (.slice (some ⟨g, 0, none⟩) n cap) ∧ Mk w' g n cap xs ∧ w.heap.size ≤ g ∧ Below w.heap.size w w' := by
  obtain ⟨i0, hi, hz0, hz1, hz2⟩ := info_parts (show (Try.prog.info? 5).map (fun i => (i.zero, i.size, i.bytes)) = some (some (.int .u8 0), 1, 1) by kernel_rfl)
  have hl : xs.length = n := by have := hb.1; rw [valsB_length] at this; omega
  have HL := Lib.hid hl
  have HR := Lib.hid hb
  clear hl hb
  go_enter Try.func20, Try.ntmps20
  go_wp2_with (first
    | (at_make; refine wpList_make_own w rfl _ _ 57 rfl w.heap.size 5 i0 (.int .u8 0) 1 Try.underlying57 hi hz0 hz1 .i64 .i64 ((n : Int) + 2) (n + 2) rfl rfl (by omega) (by rw [hz2]; omega) (by unfold maxLen; omega) (Nat.le_refl _) ?_; intro w1 hown1 hg1; have hb1 : Below w.heap.size w w1 := (Below.refl _ w).grown hg1 (Nat.le_refl _) (fun k hk => by cases hk))
    | (at_builtin; refine wpList_appB rfl (.tmp 6) (.tmp 7) rfl w.heap.size _ [] rfl hown1 A n c xs rfl (HR.out.ext (stays_b hb1)) hnil (by show 0 + n ≤ _; omega) hb1.size ?_; intro v2 w2 hown2 hb2 _ _; have hbw2 := hb1.trans hb2; have hbw3 := hbw2.alloc hbw2.size (.cells #[Value.int .u8 165, Value.int .u8 90] 5))
    | (at_builtin; refine wpList_appB rfl (.tmp 8) (.tmp 9) rfl w.heap.size _ ([] ++ xs) rfl (World.ownsRow.alloc hown2 _) _ 2 2 [165, 90] rfl (rdv_two w2) (fun h => by cases h) (by rw [List.nil_append, HL.out]; omega) (by have := hbw2.size; rw [World.size_alloc]; omega) ?_; intro v4 w4 hown4 hb4 _ _; obtain ⟨g, cap, rfl, hmk, hBg, hcap2⟩ := mk_of_own hown4 HL.out; have hcap := hmk.cap))
  go_ret
  exact ⟨g, cap, rfl, hmk, hBg, hbw3.trans hb4⟩
set_option maxHeartbeats 400000 in
theorem kept_any (g n cap : Nat) (xs : List Nat) (A : Option Addr) (c : Nat) (w : World) (hm : Mk w g n cap xs) (hb : Rdv w A n 1 (valsB xs)) (hn : n ≤ 8796093000000) :
    Calls Try.prog 23 #[.slice (some ⟨g, 0, none⟩) n cap, .slice A n c] w fun e w' => e = .returned (.bool true) ∧ w = w' := by
  have h1 := run_str w (some ⟨g, 0, none⟩) n cap xs hm.row
  have h2 := run_str w A n c xs hb
  obtain ⟨s, hs⟩ : ∃ s, s = strN xs := ⟨_, rfl⟩
  rw [← hs] at h1 h2
  have c1 := hm.cells n (by omega)
  have c2 := hm.cells (n + 1) (by omega)
  have hl := hm.len
  have hcap := hm.cap
  have e1 : (xs ++ [165, 90]).getD n 0 = 165 := by simp [List.getD_eq_getElem?_getD, ← hl]
  have e2 : (xs ++ [165, 90]).getD (n + 1) 0 = 90 := by simp [List.getD_eq_getElem?_getD, ← hl]
  rw [e1] at c1
  rw [e2] at c2
  have c1' : w.cell? ⟨g, n, none⟩ = some (.int .u8 165) := c1
  have c2' : w.cell? ⟨g, n + 1, none⟩ = some (.int .u8 90) := c2
  clear c1 c2 e1 e2 hl hs hb hm
  go_enter Try.func23, Try.ntmps23
  go_wp2
  go_ret
  exact ⟨rfl, rfl⟩
end Go.Proofs.Ytejpjbmbcdgomaa
