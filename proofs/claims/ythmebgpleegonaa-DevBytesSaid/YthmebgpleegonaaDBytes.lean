/- DevBytes: the law. -/
import Derived.Test.YthmebgpleegonaaDBytesI
import Derived.Test.YthmebgpleegonaaDHeld
import Derived.Test.YthmebgpleegonaaDDoes
import Derived.Test.YthmebgpleegonaaDKeeps
import Derived.Test.YthmebgpleegonaaDGen2
import Derived.Test.YthmebgpleegonaaDEq
import Derived.Test.YthmebgpleegonaaDArmed
namespace Go.Proofs.Ythmebgpleegonaa
set_option maxRecDepth 100000
open Go.RowKit

theorem BM.push {w wr : World} {g mb q : Nat} {F : Nat → Prop} {p : Pw} {ds : List Dk} {L : List Br} (h : BM w wr g mb q F p ds L) (hl : L.length < 10) :
    (wr.alloc (.cells #[.int .u8 0] 5)).cell? ⟨mb, L.length, none⟩ = some (.slice none 0 0) ∧ (wr.alloc (.cells #[.int .u8 0] 5)).frozen? ⟨mb, L.length, none⟩ = false ∧
    BM w ((wr.alloc (.cells #[.int .u8 0] 5)).setCell ⟨mb, L.length, none⟩ (.slice (some ⟨wr.heap.size, 0, none⟩) 1 1)) g mb q F p ds (L ++ [⟨wr.heap.size, 0, 1, [0]⟩]) := by
  have hba : Below wr.heap.size wr (wr.alloc (.cells #[.int .u8 0] 5)) := (Below.refl _ _).alloc (Nat.le_refl _) _
  have hb := h.below hba
  have hr : BrOk (wr.alloc (.cells #[.int .u8 0] 5)) ⟨wr.heap.size, 0, 1, [0]⟩ := ⟨⟨_, heap_alloc_new wr _, by simp, fun j u hj => by
    rw [Nat.zero_add]
    simpa [valsB] using hj⟩, Nat.le_refl _, Nat.one_pos⟩
  have hm := hb.may.push hl _ hr fun r hr e => by have := h.may.lt r.b (.inr ⟨r, hr, rfl⟩); rw [e] at this; exact absurd this (Nat.lt_irrefl _)
  have hlow := h.low mb (.inl rfl)
  have hc : Chg (wr.alloc (.cells #[.int .u8 0] 5)) ((wr.alloc (.cells #[.int .u8 0] 5)).setCell ⟨mb, L.length, none⟩ (.slice (some ⟨wr.heap.size, 0, none⟩) 1 1)) (fun j => j = mb) (fun j => j = mb) :=
    ⟨rfl, rfl, rfl, by rw [World.size_setCell]; exact Nat.le_refl _, fun j _ hn => Deep.blk_setCell_other _ ⟨mb, L.length, none⟩ _ j hn, fun j e => .inl e⟩
  have hws := h.ch.size
  refine ⟨hb.may.cellN _ (Nat.le_refl _) hl, hb.may.fr _, ⟨hb.st.stay hc fun j e e2 => h.fy mb (.inl rfl) (by rw [← e2]; exact e), hm, fun j e e2 => ?_, fun j e => ?_, h.on, h.ps, h.pa, h.sz, fun s hs => ?_, hb.ch.beside hc fun j e => by rw [e]; exact hlow⟩⟩
  · rcases e with e | ⟨r, hr, e⟩
    · exact h.fy j (.inl e) e2
    · rcases List.mem_append.1 hr with h1 | h1
      · exact h.fy j (.inr ⟨r, h1, e⟩) e2
      · rw [List.mem_singleton.1 h1] at e
        have := h.st.lt j e2
        rw [e] at this
        exact absurd this (Nat.lt_irrefl _)
  · rcases e with e | ⟨r, hr, e⟩
    · exact h.low j (.inl e)
    · rcases List.mem_append.1 hr with h1 | h1
      · exact h.low j (.inr ⟨r, h1, e⟩)
      · rw [List.mem_singleton.1 h1] at e
        rw [e]
        exact hws
  · rcases List.mem_append.1 hs with h1 | h1
    · exact h.few s h1
    · rw [List.mem_singleton.1 h1]
      show 1 ≤ q + 1
      omega
set_option maxHeartbeats 32000000 in
theorem bytes_law (A : Option Addr) (c : Nat) (l : List Opx) (Ak : Option Addr) (ck : Nat) (lk : List Kp) (w : World) (h : Ops w A l) (hl : l.length ≤ 9223372036854775807) (hok : ∀ o ∈ l, o.b < 256) (hk : Kps w Ak lk) (hlk : lk.length ≤ 9223372036854775807) :
    Calls Try.prog 4 #[.slice A l.length c, .slice Ak lk.length ck] w fun e w' => e = .returned (.bool true) ∧ Below w.heap.size w w' := by
  have HH := Lib.hid h
  have HKP := Lib.hid hk
  have HOK := Lib.hid hok
  have hl' := hl
  have hlk' := hlk
  obtain ⟨n, hn⟩ : ∃ n, n = l.length := ⟨_, rfl⟩
  obtain ⟨nk, hnk⟩ : ∃ n, n = lk.length := ⟨_, rfl⟩
  have HN := Lib.hid hn
  have HNK := Lib.hid hnk
  rw [← hn] at hl' ⊢
  rw [← hnk] at hlk' ⊢
  clear h hn hnk hok hk
  go_enter Try.func4, Try.ntmps4
  go_wp2_with fail
  refine Calls.mono (alive_true w) ?_
  rintro e w1 ⟨rfl, b1⟩
  have B1 := Lib.hid b1
  have HLG := Lib.hid (long_any A c l w1 (RowAt.below HH.out b1) hl)
  rw [← HN.out] at HLG
  clear b1
  go_wp2_with fail
  refine Calls.mono HLG.out ?_
  rintro e w2 ⟨r, rfl, hr, b2⟩
  have B2 := Lib.hid (B1.out.trans (b2.mono B1.out.size))
  clear b2 HLG B1
  cases r with
  | true =>
    clear hr
    go_wp2_with fail
    go_ret
    exact ⟨rfl, B2.out⟩
  | false =>
  have HSH := Lib.hid (hr rfl)
  clear hr
  by_cases hk60 : 60 < nk
  · have d1 : decide (60 < (nk : Int)) = true := decide_eq_true (by omega)
    go_wp2_with fail
    go_ret
    exact ⟨rfl, B2.out⟩
  have d1 : decide (60 < (nk : Int)) = false := decide_eq_false (by omega)
  have hbk : Below w2.heap.size w2 (w2.alloc (.cells #[.int .i64 5, .int .i64 5] 3)) := (Below.refl _ _).alloc (Nat.le_refl _) _
  have HNW := Lib.hid (st_new _ 2 [5, 5] _ (sz_two w2 5 5) (by decide) (by decide))
  have CK := Lib.hid (Chg.of_below (B2.out.trans (hbk.mono B2.out.size)) (fun _ => False))
  clear hbk B2
  go_wp2_with fail
  refine Calls.mono HNW.out ?_
  rintro e w4 ⟨F, g, rfl, s4, c4⟩
  have S4 := Lib.hid s4
  have C4 := Lib.hid (CK.out.trans c4)
  clear s4 c4 HNW CK d1
  go_upto_region 9 with fail
  have P5 := Lib.hid (show BM w (w4.alloc (.cells #[.slice none 0 0, .slice none 0 0, .slice none 0 0, .slice none 0 0, .slice none 0 0, .slice none 0 0, .slice none 0 0, .slice none 0 0, .slice none 0 0, .slice none 0 0] 47)) g w4.heap.size 0 F pw0 ([5, 5].map Dk.new) [] from by
    have hba : Below w4.heap.size w4 (w4.alloc (.cells #[.slice none 0 0, .slice none 0 0, .slice none 0 0, .slice none 0 0, .slice none 0 0, .slice none 0 0, .slice none 0 0, .slice none 0 0, .slice none 0 0, .slice none 0 0] 47)) := (Below.refl _ _).alloc (Nat.le_refl _) _
    refine ⟨S4.out.below hba, ⟨heap_alloc_new w4 _, by decide, (fun r hr => by cases hr), fun i j hi => absurd hi (Nat.not_lt_zero _)⟩, fun k e e2 => ?_, fun k e => ?_, ⟨rfl, rfl⟩, Nat.le_refl _, Nat.zero_le _, rfl, (fun r hr => by cases hr), C4.out.trans (Chg.of_below hba F)⟩
    · rcases e with e | ⟨r, hr, _⟩
      · have := S4.out.lt k e2; omega
      · cases hr
    · rcases e with e | ⟨r, hr, _⟩
      · have := C4.out.size; omega
      · cases hr)
  clear S4 C4
  obtain ⟨mb, hmb⟩ : ∃ z, z = w4.heap.size := ⟨_, rfl⟩
  rw [← hmb] at P5 ⊢
  clear hmb
  revert P5
  generalize World.alloc w4 _ = w5
  intro P5
  go_wp2_with fail
  go_loopw [44] (fun i wr => ∃ (k : Nat) (L : List Br), i = .int .i64 (k : Int) ∧ k ≤ 2 ∧ BM w wr g mb 0 F pw0 ([5, 5].map Dk.new) L ∧ L.length = 5 * k ∧ ∀ r ∈ L, r.xs = [0]) (fun i _ => 2 - (intOf i).toNat)
  case atStart => exact ⟨0, [], rfl, by omega, P5.out, rfl, fun r hr => by cases hr⟩
  case round =>
    obtain ⟨k, L, rfl, hk, hP, hL, hx⟩ := hrel
    have HP := Lib.hid (And.intro hP (And.intro hL hx))
    clear hP hL hx
    by_cases hlt : k < 2
    · go_wp2_with fail
      go_loopw [47] (fun i wr => ∃ (j : Nat) (L : List Br), i = .int .i64 (j : Int) ∧ j ≤ 5 ∧ BM w wr g mb 0 F pw0 ([5, 5].map Dk.new) L ∧ L.length = 5 * k + j ∧ ∀ r ∈ L, r.xs = [0]) (fun i _ => 5 - (intOf i).toNat)
      case atStart => exact ⟨0, L, rfl, by omega, HP.out.1, by have := HP.out.2.1; omega, HP.out.2.2⟩
      case round =>
        obtain ⟨j, L2, rfl, hj, hP, hL, hx⟩ := hrel
        by_cases hjt : j < 5
        · obtain ⟨x0, f0, hb⟩ := hP.push (by omega)
          have HB := Lib.hid hb
          have HL := Lib.hid (And.intro hL hx)
          rw [show L2.length = k * 5 + j by omega] at x0 f0 HB
          clear hP hL hx hb
          go_wp2_with fail
          go_roundw
          case rel => exact ⟨j + 1, _, by go_num, by omega, HB.out, by rw [List.length_append]; simp; have := HL.out.1; omega, fun r hr => by
            rcases List.mem_append.1 hr with e | e
            · exact HL.out.2 r e
            · rw [List.mem_singleton.1 e]⟩
          case measure => simp [intOf]; omega
        · obtain rfl : j = 5 := by omega
          have HQ := Lib.hid (And.intro hP (And.intro hL hx))
          clear hP hL hx
          go_wp2_with fail
          go_roundw
          case rel => exact ⟨k + 1, L2, by go_num, by omega, HQ.out.1, by have := HQ.out.2.1; omega, HQ.out.2.2⟩
          case measure => simp [intOf]; omega
    · have HK2 := Lib.hid (show k = 2 by omega)
      go_upto_region 18 with fail
      clear hlt hk
      have HL0 := Lib.hid (show HL ([5, 5].map Dk.new) L from by
        intro j hj
        have hj2 : j < 2 := by simpa using hj
        have e : ([5, 5].map Dk.new)[j] = Dk.new 5 := by
          rcases (show j = 0 ∨ j = 1 by omega) with rfl | rfl <;> rfl
        rw [e]
        refine ⟨(fun y hy => by cases hy), fun i _ _ => uni_full 0 (by decide), fun i h0 h1 => ?_⟩
        have hi : 5 * j + i.toNat < L.length := by have := HP.out.2.1; have := HK2.out; omega
        show (L.getD (5 * j + i.toNat) ⟨0, 0, 0, []⟩).xs = [0]
        rw [List.getD_eq_getElem?_getD, List.getElem?_eq_getElem hi]
        exact HP.out.2.2 _ (List.getElem_mem hi))
      have HP0 := Lib.hid (And.intro HP.out.1 (show L.length = 10 from by have := HP.out.2.1; have := HK2.out; omega))
      clear P5 HP
      go_wp2_with fail
      go_loopw [59] (fun i wr => ∃ (q : Nat) (F : Nat → Prop) (p : Pw) (ds : List Dk) (L : List Br), i = .int .i64 (q : Int) ∧ q ≤ n ∧ BM w wr g mb q F p ds L ∧ L.length = 10 ∧ HL ds L) (fun i _ => n - (intOf i).toNat)
      case atStart => exact ⟨0, F, pw0, _, L, rfl, by omega, HP0.out.1, HP0.out.2, HL0.out⟩
      case round =>
        clear HP0 HL0
        obtain ⟨q, F1, p, ds, L1, rfl, hq, hP, hL, hH⟩ := hrel
        have h81 : n ≤ 81 := by rw [HN.out]; exact HSH.out.1
        by_cases hlt : q < n
        · have hql : q < l.length := by rw [← HN.out]; exact hlt
          obtain ⟨b, off, rfl, hc⟩ := Ops.cell (Ops.later HH.out hP.ch) (by omega)
          obtain ⟨c0, c1, c2, c3, c4⟩ := hc q hql
          obtain ⟨o, ho⟩ : ∃ o, o = l[q] := ⟨_, rfl⟩
          have hob := HOK.out _ (List.getElem_mem hql)
          rw [← ho] at c0 c1 c2 c3 c4 hob
          have hba : Below wr.heap.size wr (wr.alloc (.cells #[.int .i64 o.kind, .int .i64 o.dev, .int .i64 o.n, .int .u8 (o.b : Int), .slice o.A o.m o.c] 40)) := (Below.refl _ _).alloc (Nat.le_refl _) _
          have HQ := Lib.hid (And.intro (hP.below hba) (And.intro (heap_alloc_new wr (.cells #[.int .i64 o.kind, .int .i64 o.dev, .int .i64 o.n, .int .u8 (o.b : Int), .slice o.A o.m o.c] 40)) (show ∀ k, Yb mb L1 k → k < wr.heap.size from hP.may.lt)))
          have HF := Lib.hid (And.intro (show ¬ F1 wr.heap.size from fun e => absurd (hP.st.lt _ e) (Nat.lt_irrefl _)) (And.intro hL hH))
          clear hP hL hH hba hc ho
          go_upto_region 21 with fail
          clear c0 c1 c2 c3 c4
          obtain ⟨z, hz⟩ : ∃ v, v = wr.heap.size := ⟨_, rfl⟩
          rw [← hz] at HQ HF ⊢
          clear hz
          revert HQ
          generalize World.alloc wr _ = wz
          intro HQ
          obtain ⟨r1, hr1⟩ : ∃ r, r = (o.kind == 1) := ⟨_, rfl⟩
          obtain ⟨r2, hr2⟩ : ∃ r, r = (o.kind == 2) := ⟨_, rfl⟩
          have g6 := hr1.symm
          have g7 := hr2.symm
          have y0 := (cell_of_row _ _ 0 _ _ (0, 0) HQ.out.2.1).trans rfl
          clear hr1 hr2
          cases r1 with
          | true =>
            clear g7
            go_upto_region 23 with fail
            clear y0
            have HA := Lib.hid (show ∀ W2, Below wz.drew.heap.size wz.drew W2 → Below wz.heap.size wz W2 ∧ W2.heap[z]? = some (.cells #[.int .i64 o.kind, .int .i64 o.dev, .int .i64 o.n, .int .u8 (o.b : Int), .slice o.A o.m o.c] 40 (0, 0)) from fun W2 hw => by
              have hb2 : Below wz.heap.size wz W2 := (Below.refl _ wz).drew.trans hw
              exact ⟨hb2, (hb2.block z (Array.getElem?_eq_some_iff.1 HQ.out.2.1).1).trans HQ.out.2.1⟩)
            refine wp_region_noPanic ?_
            refine wp_region_abs 8 242 [
              .is (.pointer (some ⟨g, 0, none⟩)),
              .is (.pointer (some ⟨z, 1, none⟩)),
              .is (.int .i64 o.dev),
              .is (.pointer (some ⟨z, 2, none⟩)),
              .is (.int .i64 o.n),
              .is (.pointer (some ⟨z, 3, none⟩)),
              .is (.int .u8 (o.b : Int)),
              .is (Sx.full o.b hob).val]
              [67, 68, 69, 70, 71, 72, 73, 74]
              [[], [], [1], [], [3], [], [5], [6]] (by kernel_rfl) (by rfl) rfl rfl (by kernel_rfl) (fun _ _ _ _ h => h.elim) ?_ ?_
            · refine ⟨?_, ?_, ?_, ?_, ?_, ?_, ?_, ?_, trivial⟩
              · intro W2 hw K hK
                go_simp
                exact hK _ _ rfl (Below.refl _ _)
              · intro W2 hw K hK
                go_simp
                exact hK _ _ rfl (Below.refl _ _)
              · intro W2 hw K hK
                have e1 := (cell_of_row _ _ 1 _ _ (0, 0) (HA.out W2 hw).2).trans rfl
                go_simp
                exact hK _ _ rfl (Below.refl _ _)
              · intro W2 hw K hK
                go_simp
                exact hK _ _ rfl (Below.refl _ _)
              · intro W2 hw K hK
                have e1 := (cell_of_row _ _ 2 _ _ (0, 0) (HA.out W2 hw).2).trans rfl
                go_simp
                exact hK _ _ rfl (Below.refl _ _)
              · intro W2 hw K hK
                go_simp
                exact hK _ _ rfl (Below.refl _ _)
              · intro W2 hw K hK
                have e1 := (cell_of_row _ _ 3 _ _ (0, 0) (HA.out W2 hw).2).trans rfl
                go_simp
                exact hK _ _ rfl (Below.refl _ _)
              · intro W2 hw K hK
                go_simp
                refine Calls.mono (full_any o.b hob W2) ?_
                rintro e w' ⟨rfl, hb⟩
                exact hK _ _ rfl hb
            · intro W2 hw2
              simp only [Behind, List.drop, Act.put, List.setIfInBounds_toArray, List.set_cons_zero, List.set_cons_succ]
              obtain ⟨hb2, hz2⟩ := HA.out W2 hw2
              have HM := Lib.hid (And.intro (HQ.out.1.below hb2) hz2)
              have HY := Lib.hid HQ.out.2.2
              clear hw2 hb2 HA HQ hz2
              have HWR := Lib.hid (st_write HM.out.1.st o.dev o.n (Sx.full o.b hob) (by have := congrArg List.length HM.out.1.sz; simp at this; omega) (by omega) (by have := HM.out.1.ps; omega) HM.out.1.pa)
              have HON := Lib.hid (writeM_on HM.out.1.on ds o.dev o.n (Sx.full o.b hob))
              by_cases hb : hasB ds o.dev o.n = true
              ·
                obtain ⟨j, m, hdj, hnm, hj2, hm5, hjl⟩ := has_five HM.out.1.sz hb
                have hyes := writeM_yes HM.out.1.on ds o.dev o.n (Sx.full o.b hob) hb
                have hwr := HWR.out
                have hon := HON.out
                rw [hyes] at hwr hon
                rw [hdj, hnm, Int.toNat_natCast] at hwr hon
                simp only [] at hwr hon
                obtain ⟨p2, hp2⟩ : ∃ y, y = (stepP p).2 := ⟨_, rfl⟩
                rw [← hp2] at hwr hon
                have HW2 := Lib.hid hwr
                have HO2 := Lib.hid hon
                clear hwr hon hyes HWR HON hp2 hb
                go_wp2_with fail
                refine Calls.mono HW2.out ?_
                rintro e w7 ⟨rfl, F2, s9, c9⟩
                have k7 := (c9.block z (Array.getElem?_eq_some_iff.1 HM.out.2).1 HF.out.1).trans HM.out.2
                have hb7 : BM w w7 g mb (q + 1) F2 p2 (setAt ds j fun e => e.more ⟨(m : Int), Sx.full o.b hob⟩) L1 := HM.out.1.act s9 c9 HO2.out.1 (by have := HO2.out.2.1; have := HM.out.1.ps; omega) (by rw [HO2.out.2.2.1]; exact HM.out.1.pa) (HO2.out.2.2.2.trans HM.out.1.sz)
                rw [hdj, hnm] at k7
                have H7 := Lib.hid (And.intro hb7 k7)
                have HFEW := Lib.hid HM.out.1.few
                have HEQ := Lib.hid (And.intro hdj hnm)
                clear s9 c9 hb7 HW2 HM HO2 hdj hnm
                have y1 := (cell_of_row _ _ 1 _ _ (0, 0) k7).trans rfl
                have y2 := (cell_of_row _ _ 2 _ _ (0, 0) k7).trans rfl
                have y3 := (cell_of_row _ _ 3 _ _ (0, 0) k7).trans rfl
                clear k7
                have d1 : decide ((j : Int) < 0) = false := decide_eq_false (by omega)
                have d2 : decide (1 < (j : Int)) = false := decide_eq_false (by omega)
                have d3 : decide ((m : Int) < 0) = false := decide_eq_false (by omega)
                have d4 : decide (4 < (m : Int)) = false := decide_eq_false (by omega)
                go_wp2_with fail
                refine NoPanic.normal ?_
                go_upto_region 26 with fail
                clear d1 d2 d3 d4
                have hk10 : j * 5 + m < L1.length := by rw [HF.out.2.1]; omega
                obtain ⟨r, hr⟩ : ∃ y, y = L1[j * 5 + m] := ⟨_, rfl⟩
                have hmem : r ∈ L1 := by rw [hr]; exact List.getElem_mem hk10
                have hbr := H7.out.1.may.each r hmem
                have hrl := HFEW.out r hmem
                have x4 := H7.out.1.may.cell (j * 5 + m) hk10
                rw [← hr] at x4
                have x5 : w7.cell? ⟨mb, j * 5 + m, none⟩ = some (.slice (some ⟨r.b, r.off, none⟩) r.xs.length r.cap) := x4
                have hba : Below w7.heap.size w7 (w7.drew.alloc (.cells #[.int .u8 (o.b : Int)] 5)) := ((Below.refl _ w7).drew).alloc (Nat.le_refl _) _
                have HBR := Lib.hid (hbr.keep (hba.block r.b hbr.lt))
                have HNB := Lib.hid (heap_alloc_new w7.drew (.cells #[.int .u8 (o.b : Int)] 5))
                have HRL := Lib.hid (show r.xs.length ≤ 1000 by omega)
                have hzl : z < w7.heap.size := (Array.getElem?_eq_some_iff.1 H7.out.2).1
                have hrz : r.b ≠ z := by have := HY.out r.b (.inr ⟨r, hmem, rfl⟩); omega
                have hzmb : z ≠ mb := by have := HY.out mb (.inl rfl); omega
                have HT := Lib.hid (show ∀ (r9 : Br) (w9 : World), r9.xs = r.xs ++ [o.b] → BrOk w9 r9 → (w7.drew.alloc (.cells #[.int .u8 (o.b : Int)] 5)).grownBy w9 (some r.b) → (r9.b = r.b ∨ (w7.drew.alloc (.cells #[.int .u8 (o.b : Int)] 5)).heap.size ≤ r9.b) →
                    w9.cell? ⟨z, 1, none⟩ = some (.int .i64 (j : Int)) ∧ w9.cell? ⟨z, 2, none⟩ = some (.int .i64 (m : Int)) ∧ w9.cell? ⟨z, 3, none⟩ = some (.int .u8 (o.b : Int)) ∧ w9.cell? ⟨mb, j * 5 + m, none⟩ = some (.slice (some ⟨r.b, r.off, none⟩) r.xs.length r.cap) ∧ w9.frozen? ⟨mb, j * 5 + m, none⟩ = false ∧ (∀ v : Value, (w9.setCell ⟨mb, j * 5 + m, none⟩ v).cell? ⟨z, 1, none⟩ = some (.int .i64 (j : Int)) ∧ (w9.setCell ⟨mb, j * 5 + m, none⟩ v).cell? ⟨z, 2, none⟩ = some (.int .i64 (m : Int)) ∧ (w9.setCell ⟨mb, j * 5 + m, none⟩ v).cell? ⟨z, 3, none⟩ = some (.int .u8 (o.b : Int))) ∧
                    BM w (w9.setCell ⟨mb, j * 5 + m, none⟩ (.slice (some ⟨r9.b, r9.off, none⟩) r9.xs.length r9.cap)) g mb (q + 1) F2 p2 (setAt ds j fun e => e.more ⟨(m : Int), Sx.full o.b hob⟩) (L1.set (j * 5 + m) r9) from fun r9 w9 hx9 hr9 hg9 hb9 => by
                  have hk9 := (hg9.block z (Nat.lt_of_lt_of_le hzl hba.size) (fun e => hrz (by injection e with e; exact e.symm))).trans ((hba.block z hzl).trans H7.out.2)
                  have hg7 : w7.grownBy w9 (some L1[j * 5 + m].b) := by rw [← hr]; exact grown_trans (grown_below hba _) hg9
                  obtain ⟨t1, t2, t3⟩ := H7.out.1.turn (j * 5 + m) hk10 r9 hg7 hr9 (by rw [← hr]; exact hb9.imp id fun e => Nat.le_trans hba.size e) (by rw [hx9, List.length_append]; simp; omega)
                  rw [← hr] at t1
                  exact ⟨(cell_of_row _ _ 1 _ _ (0, 0) hk9).trans rfl, (cell_of_row _ _ 2 _ _ (0, 0) hk9).trans rfl, (cell_of_row _ _ 3 _ _ (0, 0) hk9).trans rfl, t1, t2, fun v => by
                    have hk99 := (Deep.blk_setCell_other w9 ⟨mb, j * 5 + m, none⟩ v z hzmb).trans hk9
                    exact ⟨(cell_of_row _ _ 1 _ _ (0, 0) hk99).trans rfl, (cell_of_row _ _ 2 _ _ (0, 0) hk99).trans rfl, (cell_of_row _ _ 3 _ _ (0, 0) hk99).trans rfl⟩, t3⟩)
                have HRX := Lib.hid (show r.xs = RL L1 j (m : Int) from by
                  unfold RL
                  rw [Int.toNat_natCast, Nat.mul_comm 5 j, List.getD_eq_getElem?_getD, List.getElem?_eq_getElem hk10, hr]
                  rfl)
                have z1 := (hba.cell (World.block_lt_of_cell? _ _ (show w7.cell? ⟨z, 1, none⟩ = some (.int .i64 (j : Int)) from y1))).trans y1
                have z2 := (hba.cell (World.block_lt_of_cell? _ _ (show w7.cell? ⟨z, 2, none⟩ = some (.int .i64 (m : Int)) from y2))).trans y2
                have z3 := (hba.cell (World.block_lt_of_cell? _ _ (show w7.cell? ⟨z, 3, none⟩ = some (.int .u8 (o.b : Int)) from y3))).trans y3
                have z4 := (hba.cell (World.block_lt_of_cell? _ _ x5)).trans x5
                have y1' : w7.cell? ⟨z, 1, none⟩ = some (.int .i64 (j : Int)) := y1
                have y2' : w7.cell? ⟨z, 2, none⟩ = some (.int .i64 (m : Int)) := y2
                have y3' : w7.cell? ⟨z, 3, none⟩ = some (.int .u8 (o.b : Int)) := y3
                have z1' : (w7.alloc (.cells #[.int .u8 (o.b : Int)] 5)).cell? ⟨z, 1, none⟩ = some (.int .i64 (j : Int)) := z1
                have z2' : (w7.alloc (.cells #[.int .u8 (o.b : Int)] 5)).cell? ⟨z, 2, none⟩ = some (.int .i64 (m : Int)) := z2
                have z3' : (w7.alloc (.cells #[.int .u8 (o.b : Int)] 5)).cell? ⟨z, 3, none⟩ = some (.int .u8 (o.b : Int)) := z3
                have z4' : (w7.alloc (.cells #[.int .u8 (o.b : Int)] 5)).cell? ⟨mb, j * 5 + m, none⟩ = some (.slice (some ⟨r.b, r.off, none⟩) r.xs.length r.cap) := z4
                have i1 : (0 : Int) ≤ (j : Int) := by omega
                have i2 : (j : Int) < 2 := by omega
                have i3 : (0 : Int) ≤ (m : Int) := by omega
                have i4 : (m : Int) < 5 := by omega
                have HS0 := Lib.hid (And.intro y1' (And.intro y2' (And.intro y3' x5)))
                have HS1 := Lib.hid (And.intro z1 (And.intro z2 (And.intro z3 z4)))
                clear hk10 hr hmem hbr hrl x4 x5 hba hzl hrz hzmb y1 y2 y3 z1 z2 z3 z4 y1' y2' y3' z1' z2' z3' z4' H7 HY
                refine wp_region_noPanic ?_
                refine wp_region_z (fun w' => w'.cell? ⟨z, 1, none⟩ = some (.int .i64 (j : Int)) ∧ w'.cell? ⟨z, 2, none⟩ = some (.int .i64 (m : Int)) ∧ w'.cell? ⟨z, 3, none⟩ = some (.int .u8 (o.b : Int)) ∧ w'.cell? ⟨mb, j * 5 + m, none⟩ = some (.slice (some ⟨r.b, r.off, none⟩) r.xs.length r.cap)) 17 (by kernel_rfl) ?_
                refine wpAnyZ_take (i := 0) (v := .pointer (some ⟨z, 1, none⟩)) rfl (by kernel_rfl) (by kernel_rfl) (by kernel_rfl) (by decide) (by kernel_rfl) (never1 (by kernel_rfl)) (fun _ _ _ h => h) (Or.inl ⟨by rfl, fun _ _ => by go_simp⟩) HS0.out ?_
                simp only [Act.put, List.setIfInBounds_toArray, List.set_cons_zero, List.set_cons_succ]
                refine wpAnyZ_take (i := 1) (v := .int .i64 (j : Int)) rfl (by kernel_rfl) (by kernel_rfl) (by kernel_rfl) (by decide) (by kernel_rfl) (never1 (by kernel_rfl)) (fun _ _ _ h => h) (Or.inl ⟨by rfl, fun _ hS => by obtain ⟨s1, s2, s3, s4⟩ := hS; go_simp⟩) HS0.out ?_
                simp only [Act.put, List.setIfInBounds_toArray, List.set_cons_zero, List.set_cons_succ]
                refine wpAnyZ_take (i := 2) (v := .pointer (some ⟨z, 2, none⟩)) rfl (by kernel_rfl) (by kernel_rfl) (by kernel_rfl) (by decide) (by kernel_rfl) (never1 (by kernel_rfl)) (fun _ _ _ h => h) (Or.inl ⟨by rfl, fun _ _ => by go_simp⟩) HS0.out ?_
                simp only [Act.put, List.setIfInBounds_toArray, List.set_cons_zero, List.set_cons_succ]
                refine wpAnyZ_take (i := 3) (v := .int .i64 (m : Int)) rfl (by kernel_rfl) (by kernel_rfl) (by kernel_rfl) (by decide) (by kernel_rfl) (never1 (by kernel_rfl)) (fun _ _ _ h => h) (Or.inl ⟨by rfl, fun _ hS => by obtain ⟨s1, s2, s3, s4⟩ := hS; go_simp⟩) HS0.out ?_
                simp only [Act.put, List.setIfInBounds_toArray, List.set_cons_zero, List.set_cons_succ]
                refine wpAnyZ_take (i := 4) (v := .pointer (some ⟨z, 1, none⟩)) rfl (by kernel_rfl) (by kernel_rfl) (by kernel_rfl) (by decide) (by kernel_rfl) (never1 (by kernel_rfl)) (fun _ _ _ h => h) (Or.inl ⟨by rfl, fun _ _ => by go_simp⟩) HS0.out ?_
                simp only [Act.put, List.setIfInBounds_toArray, List.set_cons_zero, List.set_cons_succ]
                refine wpAnyZ_take (i := 5) (v := .int .i64 (j : Int)) rfl (by kernel_rfl) (by kernel_rfl) (by kernel_rfl) (by decide) (by kernel_rfl) (never1 (by kernel_rfl)) (fun _ _ _ h => h) (Or.inl ⟨by rfl, fun _ hS => by obtain ⟨s1, s2, s3, s4⟩ := hS; go_simp⟩) HS0.out ?_
                simp only [Act.put, List.setIfInBounds_toArray, List.set_cons_zero, List.set_cons_succ]
                refine wpAnyZ_take (i := 6) (v := .pointer (some ⟨z, 2, none⟩)) rfl (by kernel_rfl) (by kernel_rfl) (by kernel_rfl) (by decide) (by kernel_rfl) (never1 (by kernel_rfl)) (fun _ _ _ h => h) (Or.inl ⟨by rfl, fun _ _ => by go_simp⟩) HS0.out ?_
                simp only [Act.put, List.setIfInBounds_toArray, List.set_cons_zero, List.set_cons_succ]
                refine wpAnyZ_take (i := 7) (v := .int .i64 (m : Int)) rfl (by kernel_rfl) (by kernel_rfl) (by kernel_rfl) (by decide) (by kernel_rfl) (never1 (by kernel_rfl)) (fun _ _ _ h => h) (Or.inl ⟨by rfl, fun _ hS => by obtain ⟨s1, s2, s3, s4⟩ := hS; go_simp⟩) HS0.out ?_
                simp only [Act.put, List.setIfInBounds_toArray, List.set_cons_zero, List.set_cons_succ]
                refine wpAnyZ_take (i := 8) (v := .pointer (some ⟨mb, j * 5, none⟩)) rfl (by kernel_rfl) (by kernel_rfl) (by kernel_rfl) (by decide) (by kernel_rfl) (never1 (by kernel_rfl)) (fun _ _ _ h => h) (Or.inl ⟨by rfl, fun _ _ => by go_simp⟩) HS0.out ?_
                simp only [Act.put, List.setIfInBounds_toArray, List.set_cons_zero, List.set_cons_succ]
                refine wpAnyZ_take (i := 9) (v := .pointer (some ⟨mb, j * 5 + m, none⟩)) rfl (by kernel_rfl) (by kernel_rfl) (by kernel_rfl) (by decide) (by kernel_rfl) (never1 (by kernel_rfl)) (fun _ _ _ h => h) (Or.inl ⟨by rfl, fun _ _ => by go_simp⟩) HS0.out ?_
                simp only [Act.put, List.setIfInBounds_toArray, List.set_cons_zero, List.set_cons_succ]
                refine wpAnyZ_take (i := 10) (v := .slice (some ⟨r.b, r.off, none⟩) r.xs.length r.cap) rfl (by kernel_rfl) (by kernel_rfl) (by kernel_rfl) (by decide) (by kernel_rfl) (never1 (by kernel_rfl)) (fun _ _ _ h => h) (Or.inl ⟨by rfl, fun _ hS => by obtain ⟨s1, s2, s3, s4⟩ := hS; go_simp⟩) HS0.out ?_
                simp only [Act.put, List.setIfInBounds_toArray, List.set_cons_zero, List.set_cons_succ]
                refine wpAnyZ_take (i := 11) (v := .pointer (some ⟨z, 3, none⟩)) rfl (by kernel_rfl) (by kernel_rfl) (by kernel_rfl) (by decide) (by kernel_rfl) (never1 (by kernel_rfl)) (fun _ _ _ h => h) (Or.inl ⟨by rfl, fun _ _ => by go_simp⟩) HS0.out ?_
                simp only [Act.put, List.setIfInBounds_toArray, List.set_cons_zero, List.set_cons_succ]
                refine wpAnyZ_take (i := 12) (v := .int .u8 (o.b : Int)) rfl (by kernel_rfl) (by kernel_rfl) (by kernel_rfl) (by decide) (by kernel_rfl) (never1 (by kernel_rfl)) (fun _ _ _ h => h) (Or.inl ⟨by rfl, fun _ hS => by obtain ⟨s1, s2, s3, s4⟩ := hS; go_simp⟩) HS0.out ?_
                simp only [Act.put, List.setIfInBounds_toArray, List.set_cons_zero, List.set_cons_succ]
                refine wpAnyZ_take (i := 15) (v := .pointer (some ⟨mb, j * 5, none⟩)) rfl (by kernel_rfl) (by kernel_rfl) (by kernel_rfl) (by decide) (by kernel_rfl) (never2 (y := 16) (by kernel_rfl) (by kernel_rfl)) (fun _ _ _ h => h) (Or.inl ⟨by rfl, fun _ _ => by go_simp⟩) HS0.out ?_
                simp only [Act.put, List.setIfInBounds_toArray, List.set_cons_zero, List.set_cons_succ]
                refine wpAnyZ_one (i := 13) (by kernel_rfl) rfl (by rfl) fun K hK => ?_
                go_simp
                refine hK _ _ (fun _ => HS1.out) ?_
                clear hK K
                refine wpAnyZ_one (i := 14) (by kernel_rfl) rfl (by rfl) fun K hK => ?_
                refine wp_append_br (.tmp 105) (.tmp 108) rfl r rfl HBR.out o.b w7.heap.size rfl HNB.out HRL.out ?_
                intro r9 w9 hx9 hr9 hg9 hb9
                obtain ⟨t1, t2, t3, t4, t5, t7, t6⟩ := HT.out r9 w9 hx9 hr9 hg9 hb9
                have T6 := Lib.hid (And.intro hx9 t6)
                clear t6 t7 hr9 hg9 hb9 hx9 HT HBR HNB HRL
                refine hK _ _ (fun _ => ⟨t1, t2, t3, t4⟩) ?_
                clear hK K
                simp only [Act.put, List.setIfInBounds_toArray, List.set_cons_zero, List.set_cons_succ]
                refine wpAnyZ_one (i := 16) (by kernel_rfl) rfl (by rfl) fun K hK => ?_
                go_simp
                refine hK _ _ (fun _ => ⟨t1, t2, t3, t4⟩) ?_
                clear hK K
                refine wpAnyZ_one (i := 17) (by kernel_rfl) rfl (by rfl) fun K hK => ?_
                go_simp
                refine hK _ _ (fun h => absurd rfl h) ?_
                clear hK K t1 t2 t3 t4 t5
                refine wpAnyZ_done (by kernel_rfl) ?_ _
                refine NoPanic.normal ?_
                go_wp2_with fail
                go_roundw
                case rel =>
                  refine ⟨q + 1, F2, p2, _, _, by go_num, by omega, T6.out.2, by rw [List.length_set]; exact HF.out.2.1, ?_⟩
                  rw [Nat.mul_comm j 5]
                  exact HF.out.2.2.more HF.out.2.1 j m o.b hjl hj2 hm5 hob r9 (by rw [T6.out.1, HRX.out])
                case measure => simp [intOf]; omega
              · have hno : writeM p ds o.dev o.n (Sx.full o.b hob) = (eRange, p, ds) := by unfold writeM; rw [if_pos (by simpa using hb)]
                have hwr := HWR.out
                rw [hno] at hwr
                simp only [] at hwr
                unfold eRange at hwr
                have HW2 := Lib.hid hwr
                clear hwr hno HWR HON hb
                go_wp2_with fail
                refine Calls.mono HW2.out ?_
                rintro e w7 ⟨rfl, F2, s9, c9⟩
                have HB7 := Lib.hid (HM.out.1.act s9 c9 HM.out.1.on (Nat.le_succ_of_le HM.out.1.ps) HM.out.1.pa HM.out.1.sz)
                clear s9 c9 HW2 HM HY
                go_wp2_with fail
                refine NoPanic.normal ?_
                go_wp2_with fail
                go_roundw
                case rel => exact ⟨q + 1, F2, p, ds, L1, by go_num, by omega, HB7.out, HF.out.2.1, HF.out.2.2⟩
                case measure => simp [intOf]; omega
          | false =>
            cases r2 with
            | false =>
              go_wp2_with fail
              go_roundw
              case rel => exact ⟨q + 1, F1, p, ds, L1, by go_num, by omega, HQ.out.1.mono, HF.out.2.1, HF.out.2.2⟩
              case measure => simp [intOf]; omega
            | true =>
              have y1 := (cell_of_row _ _ 1 _ _ (0, 0) HQ.out.2.1).trans rfl
              have HON := Lib.hid (flushM_on HQ.out.1.on ds o.dev)
              have HFL := Lib.hid (st_flush HQ.out.1.st o.dev (by have := congrArg List.length HQ.out.1.sz; simp at this; omega) (by omega) (by have := HQ.out.1.ps; omega) HQ.out.1.pa)
              by_cases hb : hasB ds o.dev 0 = true
              ·
                obtain ⟨j, m0, hdj, hm0, hj2, hm05, hjl⟩ := has_five HQ.out.1.sz hb
                clear hm0 hm05
                have hyes := flushM_yes HQ.out.1.on ds o.dev hb
                have hwr := HFL.out
                have hon := HON.out
                rw [hyes] at hwr hon
                rw [hdj, Int.toNat_natCast] at hwr hon
                simp only [] at hwr hon
                obtain ⟨p2, hp2⟩ : ∃ y, y = (stepP p).2 := ⟨_, rfl⟩
                rw [← hp2] at hwr hon
                have HW2 := Lib.hid hwr
                have HO2 := Lib.hid hon
                have k0 := HQ.out.2.1
                rw [hdj] at k0
                have K0 := Lib.hid k0
                have HEQ := Lib.hid hdj
                clear y1
                have y1 : wz.cell? ⟨z, 1, none⟩ = some (.int .i64 (j : Int)) := (cell_of_row _ _ 1 _ _ (0, 0) k0).trans rfl
                clear hwr hon hyes HFL HON hp2 hb k0 hdj
                go_wp2_with fail
                refine Calls.mono HW2.out ?_
                rintro e w7 ⟨rfl, s9, c9⟩
                have k7 := (c9.block z (Array.getElem?_eq_some_iff.1 K0.out).1 HF.out.1).trans K0.out
                have hb7 : BM w w7 g mb (q + 1) F1 p2 (setAt ds j Dk.flushed) L1 := HQ.out.1.act (s9.mono (by omega)) c9 HO2.out.1 (by have := HO2.out.2.1; have := HQ.out.1.ps; omega) (by rw [HO2.out.2.2.1]; exact HQ.out.1.pa) (HO2.out.2.2.2.trans HQ.out.1.sz)
                have HDS := Lib.hid (show ds.length = 2 by have := congrArg List.length HQ.out.1.sz; simpa using this)
                have HY := Lib.hid HQ.out.2.2
                have H7 := Lib.hid (And.intro hb7 k7)
                clear s9 c9 hb7 HW2 HQ HO2 K0 y0 y1
                have y1 : w7.cell? ⟨z, 1, none⟩ = some (.int .i64 (j : Int)) := (cell_of_row _ _ 1 _ _ (0, 0) k7).trans rfl
                clear k7
                have d1 : decide ((j : Int) < 0) = false := decide_eq_false (by omega)
                have d2 : decide (1 < (j : Int)) = false := decide_eq_false (by omega)
                have i1 : (0 : Int) ≤ (j : Int) := by omega
                have i2 : (j : Int) < 2 := by omega
                have hld := load_row H7.out.1.may HF.out.2.1 j hj2
                obtain ⟨arr, harr⟩ : ∃ y, y = rowArr L1 j := ⟨_, rfl⟩
                have HARR := Lib.hid harr
                rw [← harr] at hld
                clear harr
                go_wp2_with (refine wpList_load_val rfl (.tmp 129) rfl rfl (.agg arr) hld ?_)
                clear hld d1 d2 y1
                go_loopw [131] (fun i wr => ∃ (m : Nat) (L : List Br), i = .int .i64 (m : Int) ∧ m ≤ 5 ∧ BM w wr g mb (q + 1) F1 p2 (setAt ds j Dk.flushed) L ∧ wr.heap[z]? = some (.cells #[.int .i64 o.kind, .int .i64 (j : Int), .int .i64 o.n, .int .u8 (o.b : Int), .slice o.A o.m o.c] 40 (0, 0)) ∧ Turned L1 j m L ∧ ∀ k, Yb mb L k → k < z) (fun i _ => 5 - (intOf i).toNat)
                case atStart => exact ⟨0, L1, rfl, by omega, H7.out.1, H7.out.2, Turned.start HF.out.2.1 j, HY.out⟩
                case round =>
                  obtain ⟨m, L2, rfl, hm, hP, k0, hT, hyl⟩ := hrel
                  have HP := Lib.hid (And.intro hP (And.intro k0 (And.intro hT hyl)))
                  clear hP k0 hT hyl H7
                  by_cases hmt : m < 5
                  · have hix := fun (W : World) => index_row HF.out.2.1 j m hj2 hmt W
                    rw [← HARR.out] at hix
                    obtain ⟨r, hr⟩ : ∃ y, y = L1.getD (5 * j + m) br0 := ⟨_, rfl⟩
                    rw [← hr] at hix
                    obtain ⟨nx, hnx⟩ : ∃ y, y = r.xs.length := ⟨_, rfl⟩
                    unfold Br.v at hix
                    rw [← hnx] at hix
                    have hr2 : L2.getD (5 * j + m) br0 = r := by rw [HP.out.2.2.1.2 _ (by omega), if_neg (by omega)]; exact hr.symm
                    have hk10 : 5 * j + m < L2.length := by rw [HP.out.2.2.1.1]; omega
                    have hr3 : L2[5 * j + m] = r := by rw [← hr2, List.getD_eq_getElem?_getD, List.getElem?_eq_getElem hk10]; rfl
                    have hok : BrOk wr r := by rw [← hr3]; exact HP.out.1.may.each _ (List.getElem_mem hk10)
                    obtain ⟨x1, hx1⟩ : ∃ y, nx = y + 1 := ⟨nx - 1, by have := hok.pos; omega⟩
                    have hle : nx ≤ r.cap := by rw [hnx]; exact hok.le
                    have hfw : nx ≤ 1000 := by have := HP.out.1.few r (by rw [← hr3]; exact List.getElem_mem hk10); omega
                    have hlv : r.last.v = .slice (some ⟨r.b, r.off + x1, none⟩) (nx - x1) (r.cap - x1) := by
                      show Value.slice (some ⟨r.b, r.off + (r.xs.length - 1), none⟩) (r.xs.drop (r.xs.length - 1)).length (r.cap - (r.xs.length - 1)) = _
                      rw [List.length_drop, ← hnx, show nx - 1 = x1 by omega]
                    obtain ⟨t1, t2, t3⟩ := HP.out.1.turn (5 * j + m) hk10 r.last (by rw [hr3]; exact grown_refl _ _) hok.last (.inl (by rw [hr3]; rfl)) (by rw [Br.last_len hok]; omega)
                    rw [hr3] at t1
                    rw [hlv, Nat.mul_comm 5 j] at t3
                    rw [Nat.mul_comm 5 j] at t1 t2
                    have t1' : wr.cell? ⟨mb, j * 5 + m, none⟩ = some (.slice (some ⟨r.b, r.off, none⟩) nx r.cap) := by rw [hnx]; exact t1
                    have hzn : z ≠ mb := by have := HP.out.2.2.2 mb (.inl rfl); omega
                    have hrz : ∀ k, Yb mb (L2.set (j * 5 + m) r.last) k → k < z := fun k e => by
                      rcases e with e | ⟨s, hs, e⟩
                      · exact HP.out.2.2.2 k (.inl e)
                      · rcases List.mem_or_eq_of_mem_set hs with e2 | e2
                        · exact HP.out.2.2.2 k (.inr ⟨s, e2, e⟩)
                        · exact HP.out.2.2.2 k (.inr ⟨r, by rw [← hr3]; exact List.getElem_mem hk10, by rw [e, e2]; rfl⟩)
                    have HT := Lib.hid (And.intro t3 (And.intro ((Deep.blk_setCell_other wr ⟨mb, j * 5 + m, none⟩ (.slice (some ⟨r.b, r.off + x1, none⟩) (nx - x1) (r.cap - x1)) z hzn).trans HP.out.2.1) (And.intro hrz (show Turned L1 j (m + 1) (L2.set (j * 5 + m) r.last) from by rw [Nat.mul_comm j 5]; exact HP.out.2.2.1.next hj2 hmt r.last (by rw [← hr])))))
                    have HS0 := Lib.hid (show wr.drew.cell? ⟨z, 1, none⟩ = some (.int .i64 (j : Int)) from (cell_of_row wr z 1 _ _ (0, 0) HP.out.2.1).trans rfl)
                    have e1 : (nx : Int) - 1 = (x1 : Int) := by omega
                    have e2 : IntKind.i64.wrap (x1 : Int) = (x1 : Int) := IntWalk.i64_in _ (by omega)
                    have e3 : (0 : Int) ≤ (x1 : Int) := by omega
                    have e4 : (x1 : Int) ≤ (nx : Int) := by omega
                    have e5 : x1 ≤ nx := by omega
                    have e6 : r.cap ≠ x1 := by omega
                    have i3 : (0 : Int) ≤ (m : Int) := by omega
                    have i4 : (m : Int) < 5 := by omega
                    clear hr hnx hr2 hk10 hr3 hok hx1 hlv t1 t3 hzn hrz hfw
                    go_upto_region 34 with fail
                    clear hix
                    refine wp_region_noPanic ?_
                    refine wp_region_z (fun w' => w'.cell? ⟨z, 1, none⟩ = some (.int .i64 (j : Int))) 10 (by kernel_rfl) ?_
                    refine wpAnyZ_take (i := 0) (v := .pointer (some ⟨z, 1, none⟩)) rfl (by kernel_rfl) (by kernel_rfl) (by kernel_rfl) (by decide) (by kernel_rfl) (never2 (y := 9) (by kernel_rfl) (by kernel_rfl)) (fun _ _ _ h => h) (Or.inl ⟨by rfl, fun _ _ => by go_simp⟩) HS0.out ?_
                    simp only [Act.put, List.setIfInBounds_toArray, List.set_cons_zero, List.set_cons_succ]
                    refine wpAnyZ_take (i := 1) (v := .int .i64 (j : Int)) rfl (by kernel_rfl) (by kernel_rfl) (by kernel_rfl) (by decide) (by kernel_rfl) (never1 (by kernel_rfl)) (fun _ _ _ h => h) (Or.inl ⟨by rfl, fun _ s1 => by go_simp⟩) HS0.out ?_
                    simp only [Act.put, List.setIfInBounds_toArray, List.set_cons_zero, List.set_cons_succ]
                    refine wpAnyZ_take (i := 2) (v := .int .i64 (m : Int)) rfl (by kernel_rfl) (by kernel_rfl) (by kernel_rfl) (by decide) (by kernel_rfl) (never1 (by kernel_rfl)) (fun _ _ _ h => h) (Or.inl ⟨by rfl, fun _ _ => by go_simp⟩) HS0.out ?_
                    simp only [Act.put, List.setIfInBounds_toArray, List.set_cons_zero, List.set_cons_succ]
                    refine wpAnyZ_take (i := 3) (v := .slice (some ⟨r.b, r.off, none⟩) nx r.cap) rfl (by kernel_rfl) (by kernel_rfl) (by kernel_rfl) (by decide) (by kernel_rfl) (never1 (by kernel_rfl)) (fun _ _ _ h => h) (Or.inl ⟨by rfl, fun _ _ => by go_simp⟩) HS0.out ?_
                    simp only [Act.put, List.setIfInBounds_toArray, List.set_cons_zero, List.set_cons_succ]
                    refine wpAnyZ_take (i := 4) (v := .slice (some ⟨r.b, r.off, none⟩) nx r.cap) rfl (by kernel_rfl) (by kernel_rfl) (by kernel_rfl) (by decide) (by kernel_rfl) (never1 (by kernel_rfl)) (fun _ _ _ h => h) (Or.inl ⟨by rfl, fun _ _ => by go_simp⟩) HS0.out ?_
                    simp only [Act.put, List.setIfInBounds_toArray, List.set_cons_zero, List.set_cons_succ]
                    refine wpAnyZ_take (i := 5) (v := .int .i64 (nx : Int)) rfl (by kernel_rfl) (by kernel_rfl) (by kernel_rfl) (by decide) (by kernel_rfl) (never1 (by kernel_rfl)) (fun _ _ _ h => h) (Or.inl ⟨by rfl, fun _ _ => by go_simp⟩) HS0.out ?_
                    simp only [Act.put, List.setIfInBounds_toArray, List.set_cons_zero, List.set_cons_succ]
                    refine wpAnyZ_take (i := 6) (v := .int .i64 (x1 : Int)) rfl (by kernel_rfl) (by kernel_rfl) (by kernel_rfl) (by decide) (by kernel_rfl) (never1 (by kernel_rfl)) (fun _ _ _ h => h) (Or.inl ⟨by rfl, fun _ _ => by go_simp⟩) HS0.out ?_
                    simp only [Act.put, List.setIfInBounds_toArray, List.set_cons_zero, List.set_cons_succ]
                    refine wpAnyZ_take (i := 7) (v := .slice (some ⟨r.b, r.off + x1, none⟩) (nx - x1) (r.cap - x1)) rfl (by kernel_rfl) (by kernel_rfl) (by kernel_rfl) (by decide) (by kernel_rfl) (never1 (by kernel_rfl)) (fun _ _ _ h => h) (Or.inl ⟨by rfl, fun _ _ => by go_simp⟩) HS0.out ?_
                    simp only [Act.put, List.setIfInBounds_toArray, List.set_cons_zero, List.set_cons_succ]
                    refine wpAnyZ_take (i := 8) (v := .pointer (some ⟨mb, j * 5, none⟩)) rfl (by kernel_rfl) (by kernel_rfl) (by kernel_rfl) (by decide) (by kernel_rfl) (never2 (y := 9) (by kernel_rfl) (by kernel_rfl)) (fun _ _ _ h => h) (Or.inl ⟨by rfl, fun _ _ => by go_simp⟩) HS0.out ?_
                    simp only [Act.put, List.setIfInBounds_toArray, List.set_cons_zero, List.set_cons_succ]
                    refine wpAnyZ_take (i := 9) (v := .pointer (some ⟨mb, j * 5 + m, none⟩)) rfl (by kernel_rfl) (by kernel_rfl) (by kernel_rfl) (by decide) (by kernel_rfl) (never1 (by kernel_rfl)) (fun _ _ _ h => h) (Or.inl ⟨by rfl, fun _ _ => by go_simp⟩) HS0.out ?_
                    simp only [Act.put, List.setIfInBounds_toArray, List.set_cons_zero, List.set_cons_succ]
                    refine wpAnyZ_one (i := 10) (by kernel_rfl) rfl (by rfl) fun K hK => ?_
                    go_simp
                    refine hK _ _ (fun h => absurd rfl h) ?_
                    clear hK K
                    refine wpAnyZ_done (by kernel_rfl) ?_ _
                    refine NoPanic.normal ?_
                    go_wp2_with fail
                    go_roundw
                    case rel => exact ⟨m + 1, _, by go_num, by omega, HT.out.1.below ((Below.refl _ _).drew), HT.out.2.1, HT.out.2.2.2, HT.out.2.2.1⟩
                    case measure => simp [intOf]; omega
                  · have HM5 := Lib.hid (show m = 5 by omega)
                    go_wp2_with fail
                    go_roundw
                    case rel => exact ⟨q + 1, F1, p2, _, L2, by go_num, by omega, HP.out.1, HP.out.2.2.1.1, HF.out.2.2.flush j hjl HDS.out (by have := HP.out.2.2.1; rwa [HM5.out] at this)⟩
                    case measure => simp [intOf]; omega
              · have hno : flushM p ds o.dev = (eRange, p, ds) := by unfold flushM; rw [if_pos (by simpa using hb)]
                have hwr := HFL.out
                rw [hno] at hwr
                simp only [] at hwr
                unfold eRange at hwr
                have HW2 := Lib.hid hwr
                clear hwr hno HFL HON hb
                go_wp2_with fail
                refine Calls.mono HW2.out ?_
                rintro e w7 ⟨rfl, s9, c9⟩
                have HB7 := Lib.hid (HQ.out.1.act (s9.mono (by omega)) c9 HQ.out.1.on (Nat.le_succ_of_le HQ.out.1.ps) HQ.out.1.pa HQ.out.1.sz)
                clear s9 c9 HW2 HQ y0 y1
                go_wp2_with fail
                go_roundw
                case rel => exact ⟨q + 1, F1, p, ds, L1, by go_num, by omega, HB7.out, HF.out.2.1, HF.out.2.2⟩
                case measure => simp [intOf]; omega
        · obtain rfl : q = n := by omega
          have HE := Lib.hid (And.intro hP (And.intro hL hH))
          clear hP hL hH hlt hq
          go_wp2_with fail
          go_loopw [14, 149] (fun t i wr => ∃ a : Nat, i = .int .i64 (a : Int) ∧ a ≤ nk ∧ t = .bool ((lk.take a).any tornK) ∧ BM w wr g mb q F1 p ds L1) (fun _ i _ => nk - (intOf i).toNat)
          case atStart => exact ⟨0, rfl, by omega, rfl, HE.out.1⟩
          case round =>
            obtain ⟨a, rfl, ha, rfl, hP⟩ := hrel
            have HP := Lib.hid hP
            clear hP
            by_cases hlt : a < nk
            · have hal : a < lk.length := by rw [← HNK.out]; exact hlt
              obtain ⟨b, off, rfl, hc⟩ := Kps.cell (RowAt.ext HKP.out fun _ hp => HP.out.ch.cell' hp fun e => e) (by omega)
              obtain ⟨c0, c1, c2⟩ := hc a hal
              have htk : (lk.take (a + 1)).any tornK = ((lk.take a).any tornK || tornK lk[a]) := by
                rw [List.take_succ_eq_append_getElem hal, List.any_append]
                simp
              obtain ⟨k, hk⟩ : ∃ k, k = lk[a] := ⟨_, rfl⟩
              rw [← hk] at c0 c1 c2 htk
              obtain ⟨t0, ht0⟩ : ∃ y, y = (lk.take a).any tornK := ⟨_, rfl⟩
              rw [← ht0] at htk ⊢
              have HTK := Lib.hid htk
              have hba : Below wr.heap.size wr (wr.alloc (.cells #[.int .i64 k.dev, .int .i64 k.n, .int .i64 k.tear] 54)) := (Below.refl _ _).alloc (Nat.le_refl _) _
              have HP2 := Lib.hid (HP.out.below hba)
              clear hc hk ht0 htk hba
              cases t0 with
              | true =>
                go_wp2_with fail
                go_roundw
                case rel => exact ⟨a + 1, by go_num, by omega, by rw [HTK.out]; rfl, HP2.out⟩
                case measure => simp [intOf]; omega
              | false =>
                obtain ⟨d1, hd1⟩ : ∃ y, y = decide (0 < k.tear) := ⟨_, rfl⟩
                obtain ⟨d2, hd2⟩ : ∃ y, y = decide (k.tear < 64) := ⟨_, rfl⟩
                have e1 := hd1.symm
                have e2 := hd2.symm
                have HTT := Lib.hid (show tornK k = (d1 && d2) by unfold tornK; rw [hd1, hd2])
                clear hd1 hd2
                cases d1 with
                | true =>
                  go_wp2_with fail
                  go_roundw
                  case rel => exact ⟨a + 1, by go_num, by omega, by rw [HTK.out, HTT.out]; simp, HP2.out⟩
                  case measure => simp [intOf]; omega
                | false =>
                  go_wp2_with fail
                  go_roundw
                  case rel => exact ⟨a + 1, by go_num, by omega, by rw [HTK.out, HTT.out]; simp, HP2.out⟩
                  case measure => simp [intOf]; omega
            · have htk : (lk.take a).any tornK = lk.any tornK := by rw [List.take_of_length_le (by have := HNK.out; omega)]
              rw [htk]
              obtain ⟨t0, ht0⟩ : ∃ y, y = lk.any tornK := ⟨_, rfl⟩
              rw [← ht0]
              have HT0 := Lib.hid ht0
              clear htk ht0
              have hkeep := keeps_any Ak ck lk wr (RowAt.ext HKP.out fun _ hp => HP.out.ch.cell' hp fun e => e) (by have := HNK.out; omega)
              rw [← HNK.out] at hkeep
              have HKC := Lib.hid hkeep
              have HEH := Lib.hid HE.out.2
              clear hkeep HE
              go_wp2_with fail
              refine Calls.mono HKC.out ?_
              rintro e w1 ⟨A1, c1, rfl, hk1, ha1, b1⟩
              have HM1 := Lib.hid (HP.out.below b1)
              have hcr := st_crash HM1.out.st (by have := congrArg List.length HM1.out.sz; simp at this; omega) (by omega) A1 c1 lk (by have := HNK.out; omega) (fun w' hc => kps_keep hk1 hc (fun b o e => by
                have := ha1 _ e
                exact ⟨this.2, fun e2 => by have h1 := HP.out.st.lt b e2; have h2 : wr.heap.size ≤ b := this.1; omega⟩))
              rw [← HNK.out] at hcr
              have HCR := Lib.hid hcr
              clear hk1 ha1 b1 hcr HKC HP
              go_wp2_with fail
              refine Calls.mono HCR.out ?_
              rintro e w3 ⟨rfl, s3, c3⟩
              have HM3 := Lib.hid (HM1.out.act (s3.mono (Nat.le_succ q)) c3 ⟨rfl, rfl⟩ (Nat.le_succ_of_le HM1.out.ps) (Nat.zero_le _) ((crashM_size lk ds).trans HM1.out.sz))
              clear s3 c3 HCR HM1
              go_wp2_with fail
              have HCH := Lib.hid (show ∀ (k i : Nat) (hk : k < (crashM lk ds).length), i < 5 → ((∀ z ∈ ((crashM lk ds)[k].sure (i : Int)).l, z ∈ (L1.getD (5 * k + i) br0).xs) ∧ (lk.any tornK = false → Uni ((crashM lk ds)[k].sure (i : Int)))) ∧ readM (crashM lk ds)[k] (i : Int) = (crashM lk ds)[k].sure (i : Int) ∧ (crashM lk ds)[k].waits = [] from fun k i hk hi => by
                have hk2 : k < ds.length := by simpa [crashM] using hk
                rw [crashM_get lk ds k hk2]
                exact ⟨(HEH.out.2 k hk2).crash lk k (i : Int) (by omega) (by omega), rfl, rfl⟩)
              have HDL := Lib.hid (show (crashM lk ds).length = 2 ∧ ∀ (k : Nat) (hk : k < (crashM lk ds).length), (crashM lk ds)[k].size = 5 from by
                have hz := HM3.out.sz
                have h2 : (crashM lk ds).length = 2 := by have := congrArg List.length hz; simpa using this
                refine ⟨h2, fun k hk => ?_⟩
                have e : ((crashM lk ds).map Dk.size)[k]? = ([5, 5] : List Nat)[k]? := by rw [hz]
                rw [List.getElem?_map, List.getElem?_eq_getElem hk] at e
                rcases (show k = 0 ∨ k = 1 by omega) with rfl | rfl
                · simpa using e
                · simpa using e)
              obtain ⟨dc, hdc⟩ : ∃ y, y = crashM lk ds := ⟨_, rfl⟩
              rw [← hdc] at HM3 HCH HDL
              have HL10 := Lib.hid HEH.out.1
              clear hdc HEH hlt ha
              go_loopw [169] (fun i wr => ∃ k : Nat, i = .int .i64 (k : Int) ∧ k ≤ 2 ∧ BM w wr g mb (q + 1) F1 ⟨p.steps, 0, false, false⟩ dc L1) (fun i _ => 2 - (intOf i).toNat)
              case atStart => exact ⟨0, rfl, by omega, HM3.out⟩
              case round =>
                clear HM3
                obtain ⟨k, rfl, hk, hP⟩ := hrel
                have HP := Lib.hid hP
                clear hP
                by_cases hlt : k < 2
                · have i1 : (0 : Int) ≤ (k : Int) := by omega
                  have i2 : (k : Int) < 2 := by omega
                  have hkd : k < dc.length := by rw [HDL.out.1]; exact hlt
                  have hld := load_row HP.out.may HL10.out k hlt
                  obtain ⟨arr, harr⟩ : ∃ y, y = rowArr L1 k := ⟨_, rfl⟩
                  have HARR := Lib.hid harr
                  rw [← harr] at hld
                  clear harr
                  go_wp2_with (refine wpList_load_val rfl (.tmp 173) rfl rfl (.agg arr) hld ?_)
                  clear hld
                  go_loopw [175] (fun i wr => ∃ m : Nat, i = .int .i64 (m : Int) ∧ m ≤ 5 ∧ BM w wr g mb (q + 1) F1 ⟨p.steps, 0, false, false⟩ dc L1) (fun i _ => 5 - (intOf i).toNat)
                  case atStart => exact ⟨0, rfl, by omega, HP.out⟩
                  case round =>
                    clear HP
                    obtain ⟨i, rfl, hi, hP⟩ := hrel
                    have HP := Lib.hid hP
                    clear hP
                    by_cases hit : i < 5
                    · have hix := fun (W : World) => index_row HL10.out k i hlt hit W
                      rw [← HARR.out] at hix
                      obtain ⟨r, hr⟩ : ∃ y, y = L1.getD (5 * k + i) br0 := ⟨_, rfl⟩
                      rw [← hr] at hix
                      have hk10 : 5 * k + i < L1.length := by rw [HL10.out]; omega
                      have hmem : r ∈ L1 := by
                        rw [hr, List.getD_eq_getElem?_getD, List.getElem?_eq_getElem hk10]
                        exact List.getElem_mem hk10
                      have HBR := Lib.hid hmem
                      have HCX := Lib.hid (HCH.out k i hkd hit)
                      rw [← hr] at HCX
                      obtain ⟨x, hx⟩ : ∃ y, y = dc[k].sure (i : Int) := ⟨_, rfl⟩
                      have hrd := fun (W : World) (hb : Below wr.heap.size wr W) => st_read (HP.out.below hb).st k hkd (i : Int) (by rw [HDL.out.1]; omega) (by omega) (by rw [HDL.out.2 k hkd]; omega) rfl
                      have hsu := fun (W : World) (hb : Below wr.heap.size wr W) => st_sure (HP.out.below hb).st k hkd (i : Int) (by rw [HDL.out.1]; omega) (by rw [HDL.out.2 k hkd]; omega)
                      rw [HCX.out.2.1] at hrd
                      rw [← hx] at HCX hrd hsu
                      have HRD := Lib.hid hrd
                      have HSU := Lib.hid hsu
                      unfold Br.v at hix
                      clear hr hk10 hmem hx hrd hsu
                      go_upto_region 50 with fail
                      clear hix
                      go_wp2_with fail
                      refine Calls.mono (HRD.out wr (Below.refl _ _)) ?_
                      rintro e w5 ⟨rfl, b5⟩
                      have hst := SBlk.store (w := w5.alloc (.cells Sx.zero.arr 50)) (z := Sx.zero) (heap_alloc_new w5 _) x
                      rw [World.setRow_alloc_new, ← zero_arr] at hst
                      have hba : Below w5.heap.size w5 (w5.alloc (.cells x.arr 50)) := (Below.refl _ _).alloc (Nat.le_refl _) _
                      have HB5 := Lib.hid (And.intro (b5.trans (hba.mono b5.size)) (show SBlk (w5.alloc (.cells x.arr 50)) w5.heap.size x from heap_alloc_new w5 _))
                      clear b5 hba HRD
                      go_upto_region 51 with (refine wpList_store_val rfl (.tmp 20) (.tmp 184) rfl rfl x.val rfl hst ?_)
                      clear hst
                      obtain ⟨u, hu⟩ : ∃ y, y = w5.heap.size := ⟨_, rfl⟩
                      rw [← hu] at HB5 ⊢
                      clear hu
                      revert HB5
                      generalize World.alloc w5 _ = w6
                      intro HB5
                      have HA := Lib.hid (show ∀ W2, Below w6.drew.heap.size w6.drew W2 → Below wr.heap.size wr W2 ∧ SBlk W2 u x from fun W2 hw => by
                        have hb2 : Below w6.heap.size w6 W2 := (Below.refl _ w6).drew.trans hw
                        exact ⟨HB5.out.1.trans (hb2.mono HB5.out.1.size), HB5.out.2.below hb2⟩)
                      have HXH := Lib.hid (show ∀ W2, SBlk W2 u x → W2.cell? ⟨u, 0, none⟩ = some (.int .u8 (x.hd : Int)) from fun W2 h => by
                        have := h.at 0 (.int .u8 (x.hd : Int)) (by
                          unfold Sx.vals Sx.hd
                          rw [valsB_get, List.getD_eq_getElem?_getD, List.getElem?_eq_getElem (by rw [x.len]; decide)]
                          rfl)
                        exact this)
                      cases t0 with
                      | true =>
                        refine wp_region_noPanic ?_
                        refine wp_region_abs 20 242 [
                          .is .nilIface,
                          .is (.bool false),
                          .is (.bool false),
                          .is x.val,
                          .is (.pointer (some ⟨g, 0, none⟩)),
                          .is (.int .i64 (k : Int)),
                          .is (.int .i64 (i : Int)),
                          .is x.val,
                          .is (.bool false),
                          .is (.bool false),
                          .is (.bool false),
                          .is (.bool true),
                          .is (.bool false),
                          .is (.bool false),
                          .is undef,
                          .is undef,
                          .is undef,
                          .is undef,
                          .is undef,
                          .is (.bool false)]
                          [186, 187, 188, 189, 190, 191, 192, 193, 194, 195, 196, 197, 198, 199, 200, 201, 202, 203, 204, 205]
                          [[], [0], [1], [2], [2], [2], [2], [4, 5, 6, 2], [3, 7, 2], [2, 8], [9], [10], [11, 10], [12, 10], [13], [13], [15, 13], [16, 13], [14, 17, 13], [13, 18, 10]] (by kernel_rfl) (by rfl) rfl rfl (by kernel_rfl) (fun _ _ _ _ h => h.elim) ?_ ?_
                        · refine ⟨?_, ?_, ?_, ?_, ?_, ?_, ?_, ?_, ?_, ?_, ?_, ?_, ?_, ?_, ?_, ?_, ?_, ?_, ?_, ?_, trivial⟩
                          · intro W2 hw
                            exact does_is (by kernel_rfl) (by kernel_rfl)
                          · intro W2 hw
                            exact does_is (by kernel_rfl) (by kernel_rfl)
                          · intro W2 hw
                            exact does_is (by kernel_rfl) (by kernel_rfl)
                          · intro W2 hw
                            obtain ⟨_, a0⟩ := HA.out W2 hw
                            exact does_load (b := u) (off := 0) (.tmp 20) (by kernel_rfl) rfl (by kernel_rfl) a0.load
                          · intro W2 hw
                            exact does_is (by kernel_rfl) (by kernel_rfl)
                          · intro W2 hw
                            exact does_is (by kernel_rfl) (by kernel_rfl)
                          · intro W2 hw
                            exact does_is (by kernel_rfl) (by kernel_rfl)
                          · intro W2 hw
                            exact does_call (by kernel_rfl) (by kernel_rfl) (HSU.out W2 (HA.out W2 hw).1)
                          · intro W2 hw
                            exact does_neq (x := .tmp 189) (y := .tmp 193) x (by kernel_rfl) rfl (by kernel_rfl) (by kernel_rfl)
                          · intro W2 hw
                            exact does_is (by kernel_rfl) (by kernel_rfl)
                          · intro W2 hw
                            exact does_is (by kernel_rfl) (by kernel_rfl)
                          · intro W2 hw
                            exact does_is (by kernel_rfl) (by kernel_rfl)
                          · intro W2 hw
                            exact does_is (by kernel_rfl) (by kernel_rfl)
                          · intro W2 hw
                            exact does_is (by kernel_rfl) (by kernel_rfl)
                          · intro W2 hw
                            exact does_undef (by kernel_rfl)
                          · intro W2 hw
                            exact does_undef (by kernel_rfl)
                          · intro W2 hw
                            exact does_undef (by kernel_rfl)
                          · intro W2 hw
                            exact does_undef (by kernel_rfl)
                          · intro W2 hw
                            exact does_undef (by kernel_rfl)
                          · intro W2 hw
                            exact does_is (by kernel_rfl) (by kernel_rfl)
                        · intro W2 hw2
                          simp only [Behind, List.drop, Act.put, List.setIfInBounds_toArray, List.set_cons_zero, List.set_cons_succ]
                          have HB7 := Lib.hid (And.intro (HP.out.below (HA.out W2 hw2).1) (HA.out W2 hw2).2)
                          have HBR2 := Lib.hid (HB7.out.1.may.each r HBR.out)
                          clear hw2 HA HB5 HXH HSU HP
                          go_wp2_with fail
                          refine NoPanic.normal ?_
                          have HLX := Lib.hid HB7.out.2.load
                          have hlx := HLX.out
                          go_wp2_with (refine wpList_load_val (by rfl) (.tmp 20) rfl rfl x.val hlx ?_)
                          clear hlx
                          go_loopw [208] (fun i wq => ∃ e : Nat, i = .int .i64 (e : Int) ∧ e ≤ 64 ∧ wq = W2) (fun i _ => 64 - (intOf i).toNat)
                          case atStart => exact ⟨0, rfl, by omega, rfl⟩
                          case round =>
                            have hrn : r.xs.length ≤ 1000 := by have := HB7.out.1.few r HBR.out; omega
                            obtain ⟨e, rfl, he, rfl⟩ := hrel
                            by_cases h64 : e < 64
                            · have hix := index_sx x e h64 wr
                              obtain ⟨y, hy⟩ : ∃ y, y = x.l.getD e 0 := ⟨_, rfl⟩
                              have HY := Lib.hid (show y ∈ r.xs from HCX.out.1.1 y (by
                                rw [hy, List.getD_eq_getElem?_getD, List.getElem?_eq_getElem (by rw [x.len]; exact h64)]
                                exact List.getElem_mem _))
                              rw [← hy] at hix
                              clear hy
                              go_upto_region 57 with fail
                              clear hix
                              go_wp2_with fail
                              go_loopw [24, 213] (fun t i wv => ∃ f : Nat, i = .int .i64 (f : Int) ∧ f ≤ r.xs.length ∧ t = .bool ((r.xs.take f).any (fun c => y == c)) ∧ wv = wr) (fun _ i _ => r.xs.length - (intOf i).toNat)
                              case atStart => exact ⟨0, rfl, by omega, rfl, rfl⟩
                              case round =>
                                obtain ⟨f, rfl, hf, rfl, rfl⟩ := hrel
                                by_cases hfl : f < r.xs.length
                                · have htk : (r.xs.take (f + 1)).any (fun c => y == c) = ((r.xs.take f).any (fun c => y == c) || (y == r.xs[f])) := by
                                    rw [List.take_succ_eq_append_getElem hfl, List.any_append]
                                    simp
                                  have x0 := HBR2.out.cell f (.int .u8 ((r.xs[f] : Nat) : Int)) (by rw [valsB_get, List.getElem?_eq_getElem hfl]; rfl)
                                  obtain ⟨c9, hc9⟩ : ∃ c, c = r.xs[f] := ⟨_, rfl⟩
                                  rw [← hc9] at htk x0
                                  obtain ⟨t9, ht9⟩ : ∃ c, c = (r.xs.take f).any (fun c => y == c) := ⟨_, rfl⟩
                                  rw [← ht9] at htk ⊢
                                  obtain ⟨d9, hd9⟩ : ∃ c, c = ((y : Int) == (c9 : Int)) := ⟨_, rfl⟩
                                  have HTK := Lib.hid (show (r.xs.take (f + 1)).any (fun c => y == c) = (t9 || d9) from by
                                    rw [htk, hd9]
                                    congr 1
                                    by_cases e9 : y = c9
                                    · simp [e9]
                                    · rw [beq_eq_false_iff_ne.2 e9, beq_eq_false_iff_ne.2 (by omega)])
                                  have g9 := hd9.symm
                                  clear hc9 ht9 hd9 htk
                                  cases t9 with
                                  | true =>
                                    go_wp2_with fail
                                    go_roundw
                                    case rel => exact ⟨f + 1, by go_num, by omega, by rw [HTK.out]; rfl, trivial⟩
                                    case measure => simp [intOf]; omega
                                  | false =>
                                    go_wp2_with fail
                                    go_roundw
                                    case rel => exact ⟨f + 1, by go_num, by omega, by rw [HTK.out]; rfl, trivial⟩
                                    case measure => simp [intOf]; omega
                                · have htt : (r.xs.take f).any (fun c => y == c) = true := by
                                    rw [List.take_of_length_le (by omega), List.any_eq_true]
                                    exact ⟨y, HY.out, by simp⟩
                                  rw [htt]
                                  go_wp2_with fail
                                  go_roundw
                                  case rel => exact ⟨e + 1, by go_num, by omega, trivial⟩
                                  case measure => simp [intOf]; omega
                            · go_wp2_with fail
                              go_roundw
                              case rel => exact ⟨i + 1, by go_num, by omega, HB7.out.1⟩
                              case measure => simp [intOf]; omega
                      | false =>
                        have HUN := Lib.hid (HCX.out.1.2 HT0.out.symm)
                        refine wp_region_noPanic ?_
                        refine wp_region_abs 20 242 [
                          .is .nilIface,
                          .is (.bool false),
                          .is (.bool false),
                          .is x.val,
                          .is (.pointer (some ⟨g, 0, none⟩)),
                          .is (.int .i64 (k : Int)),
                          .is (.int .i64 (i : Int)),
                          .is x.val,
                          .is (.bool false),
                          .is (.bool false),
                          .is (.bool false),
                          .is (.bool false),
                          .is (.bool true),
                          .is (.bool true),
                          .is x.val,
                          .is (.pointer (some ⟨u, 0, none⟩)),
                          .is (.int .u8 (x.hd : Int)),
                          .is x.val,
                          .is (.bool false),
                          .is (.bool false)]
                          [186, 187, 188, 189, 190, 191, 192, 193, 194, 195, 196, 197, 198, 199, 200, 201, 202, 203, 204, 205]
                          [[], [0], [1], [2], [2], [2], [2], [4, 5, 6, 2], [3, 7, 2], [2, 8], [9], [10], [11, 10], [12, 10], [13], [13], [15, 13], [16, 13], [14, 17, 13], [13, 18, 10]] (by kernel_rfl) (by rfl) rfl rfl (by kernel_rfl) (fun _ _ _ _ h => h.elim) ?_ ?_
                        · refine ⟨?_, ?_, ?_, ?_, ?_, ?_, ?_, ?_, ?_, ?_, ?_, ?_, ?_, ?_, ?_, ?_, ?_, ?_, ?_, ?_, trivial⟩
                          · intro W2 hw
                            exact does_is (by kernel_rfl) (by kernel_rfl)
                          · intro W2 hw
                            exact does_is (by kernel_rfl) (by kernel_rfl)
                          · intro W2 hw
                            exact does_is (by kernel_rfl) (by kernel_rfl)
                          · intro W2 hw
                            obtain ⟨_, a0⟩ := HA.out W2 hw
                            exact does_load (b := u) (off := 0) (.tmp 20) (by kernel_rfl) rfl (by kernel_rfl) a0.load
                          · intro W2 hw
                            exact does_is (by kernel_rfl) (by kernel_rfl)
                          · intro W2 hw
                            exact does_is (by kernel_rfl) (by kernel_rfl)
                          · intro W2 hw
                            exact does_is (by kernel_rfl) (by kernel_rfl)
                          · intro W2 hw
                            exact does_call (by kernel_rfl) (by kernel_rfl) (HSU.out W2 (HA.out W2 hw).1)
                          · intro W2 hw
                            exact does_neq (x := .tmp 189) (y := .tmp 193) x (by kernel_rfl) rfl (by kernel_rfl) (by kernel_rfl)
                          · intro W2 hw
                            exact does_is (by kernel_rfl) (by kernel_rfl)
                          · intro W2 hw
                            exact does_is (by kernel_rfl) (by kernel_rfl)
                          · intro W2 hw
                            exact does_is (by kernel_rfl) (by kernel_rfl)
                          · intro W2 hw
                            exact does_is (by kernel_rfl) (by kernel_rfl)
                          · intro W2 hw
                            exact does_is (by kernel_rfl) (by kernel_rfl)
                          · intro W2 hw
                            obtain ⟨_, a0⟩ := HA.out W2 hw
                            exact does_load (b := u) (off := 0) (.tmp 20) (by kernel_rfl) rfl (by kernel_rfl) a0.load
                          · intro W2 hw
                            exact does_is (by kernel_rfl) (by kernel_rfl)
                          · intro W2 hw
                            exact does_load (b := u) (off := 0) (.tmp 201) (by kernel_rfl) rfl (by kernel_rfl) (load_byte (HXH.out W2 (HA.out W2 hw).2))
                          · intro W2 hw
                            exact does_call (by kernel_rfl) (by kernel_rfl) (Calls.mono (full_any x.hd x.hd_lt W2) fun e w' h => ⟨h.1.trans (congrArg (fun s : Sx => Ending.returned s.val) HUN.out.eq.symm), h.2⟩)
                          · intro W2 hw
                            exact does_neq (x := .tmp 200) (y := .tmp 203) x (by kernel_rfl) rfl (by kernel_rfl) (by kernel_rfl)
                          · intro W2 hw
                            exact does_is (by kernel_rfl) (by kernel_rfl)
                        · intro W2 hw2
                          simp only [Behind, List.drop, Act.put, List.setIfInBounds_toArray, List.set_cons_zero, List.set_cons_succ]
                          have HB7 := Lib.hid (And.intro (HP.out.below (HA.out W2 hw2).1) (HA.out W2 hw2).2)
                          have HBR2 := Lib.hid (HB7.out.1.may.each r HBR.out)
                          clear hw2 HA HB5 HXH HSU HP
                          go_wp2_with fail
                          refine NoPanic.normal ?_
                          have HLX := Lib.hid HB7.out.2.load
                          have hlx := HLX.out
                          go_wp2_with (refine wpList_load_val (by rfl) (.tmp 20) rfl rfl x.val hlx ?_)
                          clear hlx
                          go_loopw [208] (fun i wq => ∃ e : Nat, i = .int .i64 (e : Int) ∧ e ≤ 64 ∧ wq = W2) (fun i _ => 64 - (intOf i).toNat)
                          case atStart => exact ⟨0, rfl, by omega, rfl⟩
                          case round =>
                            have hrn : r.xs.length ≤ 1000 := by have := HB7.out.1.few r HBR.out; omega
                            obtain ⟨e, rfl, he, rfl⟩ := hrel
                            by_cases h64 : e < 64
                            · have hix := index_sx x e h64 wr
                              obtain ⟨y, hy⟩ : ∃ y, y = x.l.getD e 0 := ⟨_, rfl⟩
                              have HY := Lib.hid (show y ∈ r.xs from HCX.out.1.1 y (by
                                rw [hy, List.getD_eq_getElem?_getD, List.getElem?_eq_getElem (by rw [x.len]; exact h64)]
                                exact List.getElem_mem _))
                              rw [← hy] at hix
                              clear hy
                              go_upto_region 57 with fail
                              clear hix
                              go_wp2_with fail
                              go_loopw [24, 213] (fun t i wv => ∃ f : Nat, i = .int .i64 (f : Int) ∧ f ≤ r.xs.length ∧ t = .bool ((r.xs.take f).any (fun c => y == c)) ∧ wv = wr) (fun _ i _ => r.xs.length - (intOf i).toNat)
                              case atStart => exact ⟨0, rfl, by omega, rfl, rfl⟩
                              case round =>
                                obtain ⟨f, rfl, hf, rfl, rfl⟩ := hrel
                                by_cases hfl : f < r.xs.length
                                · have htk : (r.xs.take (f + 1)).any (fun c => y == c) = ((r.xs.take f).any (fun c => y == c) || (y == r.xs[f])) := by
                                    rw [List.take_succ_eq_append_getElem hfl, List.any_append]
                                    simp
                                  have x0 := HBR2.out.cell f (.int .u8 ((r.xs[f] : Nat) : Int)) (by rw [valsB_get, List.getElem?_eq_getElem hfl]; rfl)
                                  obtain ⟨c9, hc9⟩ : ∃ c, c = r.xs[f] := ⟨_, rfl⟩
                                  rw [← hc9] at htk x0
                                  obtain ⟨t9, ht9⟩ : ∃ c, c = (r.xs.take f).any (fun c => y == c) := ⟨_, rfl⟩
                                  rw [← ht9] at htk ⊢
                                  obtain ⟨d9, hd9⟩ : ∃ c, c = ((y : Int) == (c9 : Int)) := ⟨_, rfl⟩
                                  have HTK := Lib.hid (show (r.xs.take (f + 1)).any (fun c => y == c) = (t9 || d9) from by
                                    rw [htk, hd9]
                                    congr 1
                                    by_cases e9 : y = c9
                                    · simp [e9]
                                    · rw [beq_eq_false_iff_ne.2 e9, beq_eq_false_iff_ne.2 (by omega)])
                                  have g9 := hd9.symm
                                  clear hc9 ht9 hd9 htk
                                  cases t9 with
                                  | true =>
                                    go_wp2_with fail
                                    go_roundw
                                    case rel => exact ⟨f + 1, by go_num, by omega, by rw [HTK.out]; rfl, trivial⟩
                                    case measure => simp [intOf]; omega
                                  | false =>
                                    go_wp2_with fail
                                    go_roundw
                                    case rel => exact ⟨f + 1, by go_num, by omega, by rw [HTK.out]; rfl, trivial⟩
                                    case measure => simp [intOf]; omega
                                · have htt : (r.xs.take f).any (fun c => y == c) = true := by
                                    rw [List.take_of_length_le (by omega), List.any_eq_true]
                                    exact ⟨y, HY.out, by simp⟩
                                  rw [htt]
                                  go_wp2_with fail
                                  go_roundw
                                  case rel => exact ⟨e + 1, by go_num, by omega, trivial⟩
                                  case measure => simp [intOf]; omega
                            · go_wp2_with fail
                              go_roundw
                              case rel => exact ⟨i + 1, by go_num, by omega, HB7.out.1⟩
                              case measure => simp [intOf]; omega
                    · have HI5 := Lib.hid (show i = 5 by omega)
                      go_wp2_with fail
                      go_roundw
                      case rel => exact ⟨k + 1, by go_num, by omega, HP.out⟩
                      case measure => simp [intOf]; omega
                · have h0 : 0 < dc.length := by rw [HDL.out.1]; omega
                  have h1 : 1 < dc.length := by rw [HDL.out.1]; omega
                  have hw0 := st_waiting HP.out.st 0 h0 (by rw [HDL.out.1]; omega) (by rw [HDL.out.2 0 h0]; omega)
                  have hw1 := st_waiting HP.out.st 1 h1 (by rw [HDL.out.1]; omega) (by rw [HDL.out.2 1 h1]; omega)
                  rw [(HCH.out 0 0 h0 (by omega)).2.2] at hw0
                  rw [(HCH.out 1 0 h1 (by omega)).2.2] at hw1
                  have HW0 := Lib.hid hw0
                  have HW1 := Lib.hid hw1
                  have HDN := Lib.hid (st_down HP.out.st)
                  have HBE := Lib.hid (HP.out.ch.below (Nat.le_refl _) (fun k e => e.elim))
                  clear h0 h1 hw0 hw1
                  go_wp2_with fail
                  refine Calls.mono HW0.out ?_
                  rintro e w5 ⟨rfl, rfl⟩
                  go_wp2_with fail
                  refine Calls.mono HW1.out ?_
                  rintro e w5 ⟨rfl, rfl⟩
                  go_wp2_with fail
                  refine Calls.mono HDN.out ?_
                  rintro e w5 ⟨rfl, rfl⟩
                  go_wp2_with fail
                  go_ret
                  exact ⟨rfl, HBE.out⟩
end Go.Proofs.Ythmebgpleegonaa
