/- Tree.Sound. -/
import Derived.Test.YtdbckolndaodeaaTTr2
import Derived.Deep.QuietTactic
import Derived.BigQuiet
namespace Go.Proofs.Ytdbckolndaodeaa
set_option maxRecDepth 100000
open Go.RowKit

theorem rng_whole {lo hi : Int} {l : List Ix} (h : ∀ x ∈ l, lo ≤ x.k ∧ x.k ≤ hi) : rng lo hi l = l := filter_all fun x hx => by have := h x hx; simp; omega
set_option maxHeartbeats 4000000 in
theorem tsound_none {w : World} {F : Nat → Prop} {tb d : Nat} (h : TL w F tb [] d) : Calls Try.prog 21 #[.pointer (some ⟨tb, 0, none⟩)] w fun e w' => e = .returned (.bool true) ∧ Below w.heap.size w w' := by
  have HL := Lib.hid (len_any h)
  clear h
  go_enter Try.func21, Try.ntmps21
  go_wp2_with fail
  refine Calls.mono HL.out ?_
  rintro e w1 ⟨rfl, rfl⟩
  go_wp2_with fail
  go_ret
  exact ⟨rfl, Below.refl _ _⟩
theorem below_drewQ {w w2 : World} {B q : Nat} (h : Below B w w2) : Below B w (w2.drewN q) := ⟨h.os, h.tape, h.output, h.size, h.block⟩
theorem deep_bound {w : World} {F : Nat → Prop} {tb d : Nat} {l : List Ix} (h : TL w F tb l d) (hl : l.length ≤ 100000) : d ≤ 500 := by
  rcases Nat.eq_zero_or_pos d with e | e
  · omega
  · have h1 := h.deep e
    rcases Nat.lt_or_ge d 12 with h2 | h2
    · omega
    · exfalso
      have h3 : 3 ^ 12 ≤ 3 ^ d := Nat.pow_le_pow_right (by omega) h2
      have h4 : (3 : Nat) ^ 12 = 531441 := by decide
      omega
set_option maxHeartbeats 8000000 in
theorem tsound_some {w : World} {F : Nat → Prop} {tb d : Nat} {l : List Ix} (h : TL w F tb l d) (hn : 0 < l.length) (hl : l.length ≤ 100000) (hd : d ≤ 500) (hk : ∀ x ∈ l, -9223372036854775808 ≤ x.k ∧ x.k ≤ 9223372036854775807) : Calls Try.prog 21 #[.pointer (some ⟨tb, 0, none⟩)] w fun e w' => e = .returned (.bool true) ∧ Below w.heap.size w w' := by
  have HL := Lib.hid (len_any h)
  obtain ⟨dd, hdd⟩ : ∃ dd, dd = d + 1 := ⟨_, rfl⟩
  have HD := Lib.hid (fun (w1 : World) (hb : Below w.heap.size w w1) => deep_some (h.below hb) hn (by omega))
  rw [← hdd] at HD
  have H := Lib.hid h
  have hup := h.up
  obtain ⟨T, m, hTd, hTl, hT⟩ := h
  have c0 : w.cell? ⟨tb, 0, none⟩ = some (.pointer (some ⟨(root T.d m).p, 0, none⟩)) := by rw [cell_of_row _ _ 0 _ _ _ hT.block]; rfl
  have hroot := hT.tu.top
  obtain ⟨A, cc, ev, _⟩ := hroot.items
  have r0 := hroot.c0
  rw [ev] at r0
  have hne : 0 < (root T.d m).is.length := by
    rcases hT.ok.some with e | e
    · have h9 : (flat T.d (trOf T.d m)).length = l.length := by rw [hT.tr, ← hTl]; rfl
      have h8 : ∀ (dd : Nat) (mm : MT dd), dd = 0 → (flat dd (trOf dd mm)).length = (root dd mm).is.length := fun dd mm e => by subst e; rfl
      rw [h8 _ m e] at h9
      omega
    · rw [← hT.tr, its_tr] at e; exact e
  obtain ⟨ni, hni⟩ : ∃ ni, ni = (root T.d m).is.length := ⟨_, rfl⟩
  rw [← hni] at r0 hne
  have d1 : ((ni : Int) == 0) = false := by rw [beq_eq_false_iff_ne]; omega
  have t0 : ((l.length : Int) == 0) = false := by rw [beq_eq_false_iff_ne]; omega
  have HSN := Lib.hid (fun (w1 : World) (hb : Below w.heap.size w w1) => sound_node T.d m w1 1 dd (hT.tu.below hb) (by rw [hTd, hdd]; omega) (by omega) (.inl rfl))
  have hwk : walkT (-9223372036854775808) 9223372036854775807 T.d (trOf T.d m) = l := by
    rw [walk_spec _ _ T.d (trOf T.d m) (by rw [hT.tr]; exact hT.ok.ok) (by rw [hT.tr]; exact hT.ok.up)]
    have e : flat T.d (trOf T.d m) = l := by rw [hT.tr, ← hTl]; rfl
    rw [e]
    exact rng_whole hk
  have HWK := Lib.hid (fun (w0 : World) (hb : Below w.heap.size w w0) => walk_any_s (shows_s w0) (-9223372036854775808) 9223372036854775807 T.d m [] (w0.alloc (.cells #[.slice none 0 0] 48)) (hT.tu.below hb) ⟨bags_start w0, (Below.refl _ _).alloc (Nat.le_refl _) _⟩ (by rw [hwk]; simpa using hl))
  simp only [hwk, List.nil_append] at HWK
  obtain ⟨n, hnn⟩ : ∃ n, n = l.length := ⟨_, rfl⟩
  rw [← hnn] at HL t0 hl
  have HUP := Lib.hid hup
  have HNN := Lib.hid (And.intro hnn (And.intro hl hni))
  obtain ⟨pt, hpt⟩ : ∃ pt, pt = (root T.d m).p := ⟨_, rfl⟩
  rw [← hpt] at c0 r0 HSN HWK
  clear hT hroot ev hne hni hwk hnn hup hn hd hk hTd hTl hpt hdd
  go_enter Try.func21, Try.ntmps21
  go_wp2_with fail
  refine Calls.mono HL.out ?_
  rintro e w1 ⟨rfl, rfl⟩
  go_upto_region 3 with fail
  go_cut [26] from 8 to 26 (fun r wx => r = .bool false ∧ Below w.heap.size w wx)
  case first =>
    have HDX := Lib.hid (HD.out w.drew (below_drewI (Below.refl _ _)))
    go_region_law (first | (go_simp; go_at_call 20; refine Calls.mono HDX.out ?_; rintro e8 w8 ⟨rfl, rfl⟩) | (go_simp; go_at_call 32; refine Calls.mono (HSN.out w.drew (below_drewI (Below.refl _ _))) ?_; rintro e9 w9 ⟨rfl, hb9⟩; have HB9 := Lib.hid ((Below.refl _ w).drew.trans hb9); clear hb9))
    all_goals (go_wp2_with fail; go_meet; exact ⟨rfl, HB9.out⟩)
  case rest =>
    obtain ⟨rfl, hb⟩ := hcut
    have hcb := (hb.cell (World.block_lt_of_cell? _ _ c0)).trans c0
    have c2 : ∀ o, (wc.alloc o).cell? ⟨tb, 0, none⟩ = some (.pointer (some ⟨pt, 0, none⟩)) := fun o => (((Below.refl _ wc).alloc (Nat.le_refl _) o).cell (World.block_lt_of_cell? _ _ hcb)).trans hcb
    have HWC := Lib.hid (HWK.out wc hb)
    have HB := Lib.hid hb
    clear hcb hb HWK HSN HD r0 d1 t0
    go_wp2_with fail
    refine Calls.mono HWC.out ?_
    rintro e3 w3 ⟨rfl, hbag, hb3⟩
    obtain ⟨_, v3, hv3, ho3⟩ := hbag
    obtain ⟨A3, c3, rfl⟩ := own_form ho3
    rw [← HNN.out.1] at hv3 ho3
    have hc3 : w3.cell? ⟨wc.heap.size, 0, none⟩ = some (.slice A3 n c3) := by rw [cell_of_row _ _ 0 _ _ _ hv3]; rfl
    obtain ⟨A9, c9, e9, hr9, _, _⟩ := rdv_own ho3
    injection e9 with e9 _ _
    subst e9
    have HB3 := Lib.hid (HB.out.trans (hb3.mono HB.out.size))
    have HRW := Lib.hid hr9
    obtain ⟨cb, hcb⟩ : ∃ cb, cb = wc.heap.size := ⟨_, rfl⟩
    rw [← hcb] at hc3 ⊢
    have HC3 := Lib.hid hc3
    have hT1 : w3.cell? ⟨tb, 1, none⟩ = some (.int .i64 (n : Int)) := by
      have h9 := H.out.below HB3.out
      obtain ⟨T9, m9, _, e9, hT9⟩ := h9
      rw [cell_of_row _ _ 1 _ _ _ hT9.block, e9, ← HNN.out.1]; rfl
    have HT1 := Lib.hid hT1
    clear hv3 ho3 hb3 hcb c2 HWC hT1 hr9
    go_wp2_with fail
    clear hc3
    go_loopg [4, 35, 36, 37, 38, 39, 40, 41, 42, 43, 44, 45, 46, 47, 48, 49, 50, 51, 52] n (fun k _ ix _ _ _ _ _ _ _ _ _ _ _ _ _ _ _ _ _ wr => ∃ z : Nat, ix = .int .i64 (z : Int) ∧ z + k = n ∧ Below w3.heap.size w3 wr)
    case atStart => exact ⟨0, rfl, by omega, Below.refl _ _⟩
    case round =>
      obtain ⟨z, rfl, hz, hbr⟩ := hrel
      have HBR := Lib.hid hbr
      have hc4 := (hbr.cell (World.block_lt_of_cell? _ _ HC3.out)).trans HC3.out
      have hn9 : n ≤ 100000 := HNN.out.2.1
      clear hbr
      cases gk with
      | zero =>
        obtain rfl : z = n := by omega
        have ht1 := (HBR.out.cell (World.block_lt_of_cell? _ _ HT1.out)).trans HT1.out
        clear hz
        go_upto_region 13 with fail
        go_region_law (fail)
        all_goals
          go_wp2_with fail
          go_ret
          exact ⟨rfl, below_drewI (HB3.out.trans (HBR.out.mono HB3.out.size))⟩
      | succ gk =>
        have hlt : z < l.length := by rw [← HNN.out.1]; omega
        obtain ⟨g, off, hA3, hcl⟩ := HRW.out.2 (by omega)
        subst hA3
        obtain ⟨x, hx⟩ : ∃ x, l[z]? = some x := ⟨_, List.getElem?_eq_getElem hlt⟩
        have hxz : w3.cell? ⟨g, off + z, none⟩ = some (.int .i64 x.k) := hcl z _ (by
          have := rowV_get KV 1 KV.len l z hlt 0 (by omega)
          rw [Nat.mul_one, Nat.add_zero] at this
          rw [this, ← (List.getElem?_eq_some_iff.1 hx).2]
          rfl)
        have hx4 := (HBR.out.cell (World.block_lt_of_cell? _ _ hxz)).trans hxz
        have hzn : z < n := by omega
        have hzn2 : (z : Int) < (n : Int) := by omega
        by_cases hz0 : z = 0
        · subst hz0
          clear hx hxz hlt hcl
          have HZ := Lib.hid hz
          clear hz
          have d2 : decide ((0 : Int) < 0) = false := rfl
          go_upto_region 10 with fail
          go_quiet (fail)
          all_goals
            go_wp2_with fail
            go_roundg gk
            case measure => omega
            case rel => exact ⟨1, rfl, by have := HZ.out; omega, below_drewQ HBR.out⟩
        · obtain ⟨y, hy⟩ : ∃ y, z = y + 1 := ⟨z - 1, by omega⟩
          have hyl : y < l.length := by omega
          obtain ⟨x', hx'⟩ : ∃ x', l[y]? = some x' := ⟨_, List.getElem?_eq_getElem hyl⟩
          have hxy : w3.cell? ⟨g, off + y, none⟩ = some (.int .i64 x'.k) := hcl y _ (by
            have := rowV_get KV 1 KV.len l y hyl 0 (by omega)
            rw [Nat.mul_one, Nat.add_zero] at this
            rw [this, ← (List.getElem?_eq_some_iff.1 hx').2]
            rfl)
          have hy4 := (HBR.out.cell (World.block_lt_of_cell? _ _ hxy)).trans hxy
          have hlt2 : x'.k < x.k := by
            obtain ⟨q1, q2⟩ := List.getElem?_eq_some_iff.1 hx'
            obtain ⟨q3, q4⟩ := List.getElem?_eq_some_iff.1 hx
            rw [← q2, ← q4]
            exact List.pairwise_iff_getElem.1 HUP.out y z q1 q3 (by omega)
          have d2 : decide ((0 : Int) < (z : Int)) = true := decide_eq_true (by omega)
          have d3 : decide (0 < z) = true := decide_eq_true (by omega)
          have d4 : decide (x.k ≤ x'.k) = false := decide_eq_false (by omega)
          have f6 : IntKind.i64.wrap ((z : Int) - 1) = (y : Int) := by rw [IntKind.wrap_i64]; omega
          have f7 : (y : Int) < (n : Int) := by omega
          have HZ := Lib.hid hz
          clear hx hxz hlt hcl hz hz0 hy hyl hx' hxy hlt2
          go_upto_region 10 with fail
          go_quiet (fail)
          all_goals
            go_wp2_with fail
            go_roundg gk
            case measure => omega
            case rel => exact ⟨z + 1, by go_num, by have := HZ.out; omega, below_drewQ HBR.out⟩
theorem tsound_any {w : World} {F : Nat → Prop} {tb d : Nat} {l : List Ix} (h : TL w F tb l d) (hl : l.length ≤ 100000) (hk : ∀ x ∈ l, -9223372036854775808 ≤ x.k ∧ x.k ≤ 9223372036854775807) : Calls Try.prog 21 #[.pointer (some ⟨tb, 0, none⟩)] w fun e w' => e = .returned (.bool true) ∧ Below w.heap.size w w' := by
  cases l with
  | nil => exact tsound_none h
  | cons x l => exact tsound_some h (by simp) hl (deep_bound h hl) hk
end Go.Proofs.Ytdbckolndaodeaa
