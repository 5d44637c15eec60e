/- YtkeckjgihjpfbaaDoorCutsLaw, YtkeckjgihjpfbaaDoorApartLaw, YtkeckjgihjpfbaaDoorRefN, YtkeckjgihjpfbaaDoorRefC, YtkeckjgihjpfbaaDoorRefW2, YtkeckjgihjpfbaaDoorRefW3, YtkeckjgihjpfbaaDoorRefW4, YtkeckjgihjpfbaaDoorRefD: put together. -/
import Derived.Test.YtkeckjgihjpfbaaDoorZP5
import Derived.Test.YtkeckjgihjpfbaaDoorZP3
import Derived.Deep.RegionHeld3
import Derived.Test.YtkeckjgihjpfbaaDoorZP4
import Derived.Deep.RegionLaw
/- ProgCuts answers true of whatever programs and cuts: the walk. -/
namespace Go.Proofs.YtkeckjgihjpfbaaDoor
set_option maxRecDepth 100000
open Go.RowKit
attribute [local go_sem ↓] Go.wp_at_zero Go.wp_at_succ

theorem enc_pos (f : Nat) (l : List Ins) : 0 < (encP f l).length := by
  unfold encP cntN
  simp only [List.length_append, List.length_cons]
  omega
theorem cut_mod (cut : Int) (N : Nat) (h : 0 < N) (hN : N ≤ 2000) : ∃ k : Nat, k < N ∧ wrap64 ((IntKind.u64.wrap cut).tmod (N : Int)) = (k : Int) := by
  have hw : IntKind.u64.wrap cut = cut % 18446744073709551616 := by rw [IntKind.wrap_u64]
  have h0 : 0 ≤ cut % 18446744073709551616 := Int.emod_nonneg _ (by decide)
  rw [hw, Int.tmod_eq_emod_of_nonneg h0]
  have h1 : 0 ≤ cut % 18446744073709551616 % (N : Int) := Int.emod_nonneg _ (by omega)
  have h2 : cut % 18446744073709551616 % (N : Int) < (N : Int) := Int.emod_lt_of_pos _ (by omega)
  obtain ⟨k, hk⟩ := Int.eq_ofNat_of_zero_le h1
  rw [hk] at h2 ⊢
  refine ⟨k, by omega, ?_⟩
  unfold wrap64
  omega
theorem cut_byte (cut : Int) : ∃ b : Nat, b < 256 ∧ IntKind.u8.wrap cut = (b : Int) := by
  rw [IntKind.wrap_u8]
  obtain ⟨k, hk⟩ := Int.eq_ofNat_of_zero_le (Int.emod_nonneg cut (show (256 : Int) ≠ 0 by decide))
  exact ⟨k, by omega, hk⟩
theorem rdv_take {w : World} {A : Option Addr} {n k : Nat} {xs : List Nat} (h : Rdv w A n 1 (valsB xs)) (hk : k ≤ n) : Rdv w A k 1 (valsB (xs.take k)) := by
  have hl := h.1
  rw [valsB_length] at hl
  refine ⟨by rw [valsB_length, List.length_take]; omega, fun h0 => ?_⟩
  obtain ⟨b, off, e, hc⟩ := h.2 (by omega)
  refine ⟨b, off, e, fun j u hj => hc j u ?_⟩
  rw [valsB_get, List.getElem?_take] at hj
  by_cases hjk : j < k
  · rw [if_pos hjk] at hj
    rw [valsB_get]; exact hj
  · rw [if_neg hjk] at hj; cases hj
theorem dec_none {xs : List Nat} {w w' : World} {e : Ending} (h : decOk xs = false) (hd : DecE xs w w' e) : e = .returned (.tuple #[.agg #[.int .i64 0, .slice none 0 0], .iface 36 (.int .i64 2)]) := by
  rcases hd with ⟨h2, _⟩ | ⟨_, h2⟩
  · rw [h] at h2; cases h2
  · exact h2
theorem cut_own {w : World} {B n c bq : Nat} {A : Option Addr} {xs : List Nat} (h : w.ownsRow B 5 1 (.slice A n c) n (valsB xs)) : (w.alloc (.cells #[.int .u8 (bq : Int)] 5)).ownsRow B 5 1 (.slice A n c) n (valsB xs) := h.alloc _
theorem cut_below {w w9 : World} (h : (w.alloc (.cells #[] 5)).grownBy w9 (Value.slice (some ⟨w.heap.size, 0, none⟩) 0 0).ownBlock) : Below w.heap.size w w9 :=
  ((Below.refl _ w).alloc (Nat.le_refl _) _).grown h (by rw [World.size_alloc]; omega) (fun q e => by have : w.heap.size = q := Option.some.inj e; omega)
set_option maxHeartbeats 16000000 in
theorem cuts_law (f g cut : Int) (A A' : Option Addr) (n n' c c' : Nat) (l m : List Ins) (w : World) (hT : Tab w) (h1 : Codes w A n l) (h2 : Codes w A' n' m) (hn : n ≤ 9223372036854775807) (hn' : n' ≤ 9223372036854775807) (hok : ∀ x ∈ l, Ins.Ok x) (hok' : ∀ x ∈ m, Ins.Ok x) (hcut : Fits cut) :
    Calls Tryd.prog 6 #[.agg #[.int .i64 f, .slice A n c], .agg #[.int .i64 g, .slice A' n' c'], .int .i64 cut] w fun e w' => e = .returned (.bool true) ∧ Below w.heap.size w w' := by
  obtain ⟨hx, hy⟩ := two_cells w f g A A' n n' c c'
  have hb := two_boxes w f g A A' n n' c c'
  have HAL := Lib.hid (alive_any _ (hT.ext hb))
  have HBX := Lib.hid hb
  have HX0 := Lib.hid hx
  have HY0 := Lib.hid hy
  have HT := Lib.hid hT
  have H1 := Lib.hid h1
  have H2 := Lib.hid h2
  have HFN := Lib.hid (fun x hx => (hok x hx).n)
  have HFM := Lib.hid (fun x hx => (hok' x hx).n)
  have HCUT := Lib.hid hcut
  clear hx hy hb hT h1 h2 hok hok' hcut
  go_enter Tryd.func6, Tryd.ntmps6
  go_wp2_with fail
  refine Calls.mono HAL.out ?_
  rintro e w1 ⟨rfl, hb1⟩
  have HB1 := Lib.hid (HBX.out.trans (hb1.mono HBX.out.size))
  have HX1 := Lib.hid (box_later HX0.out hb1)
  have HY1 := Lib.hid (box_later HY0.out hb1)
  have x0 : w1.cell? ⟨w.heap.size, 0, none⟩ = some (.int .i64 f) := cell_of_row w1 _ 0 _ 24 (0, 0) HX1.out
  have x1 : w1.cell? ⟨w.heap.size, 1, none⟩ = some (.slice A n c) := cell_of_row w1 _ 1 _ 24 (0, 0) HX1.out
  clear hb1
  have HLA := Lib.hid (large_any f A n c w1)
  by_cases hl : 100 < n
  · have d1 : decide ((100 : Int) < (n : Int)) = true := decide_eq_true (by omega)
    rw [d1] at HLA
    clear d1
    go_wp2_with fail
    refine Calls.mono HLA.out ?_
    rintro e w2 ⟨rfl, hb2⟩
    have HB2 := Lib.hid (HB1.out.trans (hb2.mono HB1.out.size))
    clear hb2
    go_wp2_with fail
    go_ret
    exact ⟨rfl, HB2.out⟩
  have d1 : decide ((100 : Int) < (n : Int)) = false := decide_eq_false (by omega)
  rw [d1] at HLA
  clear d1
  go_wp2_with fail
  refine Calls.mono HLA.out ?_
  rintro e w2 ⟨rfl, hb2⟩
  have HB2 := Lib.hid (HB1.out.trans (hb2.mono HB1.out.size))
  have HX2 := Lib.hid (box_later HX1.out hb2)
  have HY2 := Lib.hid (box_later HY1.out hb2)
  clear x0 x1 hb2
  have y0 : w2.cell? ⟨w.heap.size + 1, 0, none⟩ = some (.int .i64 g) := cell_of_row w2 _ 0 _ 24 (0, 0) HY2.out
  have y1 : w2.cell? ⟨w.heap.size + 1, 1, none⟩ = some (.slice A' n' c') := cell_of_row w2 _ 1 _ 24 (0, 0) HY2.out
  have HLB := Lib.hid (large_any g A' n' c' w2)
  by_cases hl' : 100 < n'
  · have d1 : decide ((100 : Int) < (n' : Int)) = true := decide_eq_true (by omega)
    rw [d1] at HLB
    clear d1
    go_wp2_with fail
    refine Calls.mono HLB.out ?_
    rintro e w3 ⟨rfl, hb3⟩
    have HB3 := Lib.hid (HB2.out.trans (hb3.mono HB2.out.size))
    clear hb3
    go_wp2_with fail
    go_ret
    exact ⟨rfl, HB3.out⟩
  have d1 : decide ((100 : Int) < (n' : Int)) = false := decide_eq_false (by omega)
  rw [d1] at HLB
  clear d1
  go_wp2_with fail
  refine Calls.mono HLB.out ?_
  rintro e w3 ⟨rfl, hb3⟩
  have HB3 := Lib.hid (HB2.out.trans (hb3.mono HB2.out.size))
  have HX3 := Lib.hid (box_later HX2.out hb3)
  have HY3 := Lib.hid (box_later HY2.out hb3)
  clear y0 y1 hb3
  have x0 : w3.cell? ⟨w.heap.size, 0, none⟩ = some (.int .i64 f) := cell_of_row w3 _ 0 _ 24 (0, 0) HX3.out
  have x1 : w3.cell? ⟨w.heap.size, 1, none⟩ = some (.slice A n c) := cell_of_row w3 _ 1 _ 24 (0, 0) HX3.out
  have HEN := Lib.hid (encode_any f A n c l w3 (HT.out.ext HB3.out) (H1.out.ext (stays_b HB3.out)) hn HFN.out)
  go_wp2_with fail
  refine Calls.mono HEN.out ?_
  rintro e w4 ⟨he4, hb4⟩
  have HB4 := Lib.hid (HB3.out.trans (hb4.mono HB3.out.size))
  have HX4 := Lib.hid (box_later HX3.out hb4)
  have HY4 := Lib.hid (box_later HY3.out hb4)
  clear x0 x1 hb4
  have y0 : w4.cell? ⟨w.heap.size + 1, 0, none⟩ = some (.int .i64 g) := cell_of_row w4 _ 0 _ 24 (0, 0) HY4.out
  have y1 : w4.cell? ⟨w.heap.size + 1, 1, none⟩ = some (.slice A' n' c') := cell_of_row w4 _ 1 _ 24 (0, 0) HY4.out
  have HEM := Lib.hid (encode_any g A' n' c' m w4 (HT.out.ext HB4.out) (H2.out.ext (stays_b HB4.out)) hn' HFM.out)
  rcases he4 with ⟨hck, Ab, cb, rfl, hrb, hnab⟩ | ⟨hck, b, rfl, _, hfa⟩
  · have HCK := Lib.hid hck
    have HRB := Lib.hid hrb
    have HNIL := Lib.hid hnab.nil
    have hpos := enc_pos f.toNat l
    have HCB := Lib.hid (show (encP f.toNat l).length ≤ cb by rcases hnab with ⟨_, h1, h2⟩ | ⟨_, _, _, _, h3, _⟩ <;> omega)
    clear hck hrb hnab
    go_wp2_with fail
    refine Calls.mono HEM.out ?_
    rintro e w5 ⟨he5, hb5⟩
    have HB5 := Lib.hid (HB4.out.trans (hb5.mono HB4.out.size))
    have HX5 := Lib.hid (box_later HX4.out hb5)
    have HY5 := Lib.hid (box_later HY4.out hb5)
    have HRB5 := Lib.hid (HRB.out.ext (stays_b hb5))
    clear y0 y1 hb5
    rcases he5 with ⟨hck2, Ac, cc, rfl, hrc, _⟩ | ⟨_, b2, rfl, _, _⟩
    · have hck1 := HCK.out
      obtain ⟨hh, _⟩ := chk_good hck1
      obtain ⟨hh2, _⟩ := chk_good hck2
      have hsm := good_small hck1 HFN.out
      have hsm2 := good_small hck2 HFM.out
      have hlL : (encP f.toNat l).length ≤ 2000 := encP_len hsm (by omega) (by omega)
      have hlM : (encP g.toNat m).length ≤ 2000 := encP_len hsm2 (by omega) (by omega)
      have HSL := Lib.hid (show ∀ b ∈ encP f.toNat l, b < 256 from encP_small hsm)
      have HSMM := Lib.hid (show ∀ b ∈ encP g.toNat m, b < 256 from encP_small hsm2)
      have HCUTN := Lib.hid (fun k hk => dec_cut hck1 HFN.out HSL.out k hk)
      have HMORE := Lib.hid (fun b => dec_more hck1 HFN.out b)
      have hinj := enc_inj hck1 HFN.out hck2 HFM.out
      have HRC5 := Lib.hid hrc
      obtain ⟨P, hP⟩ : ∃ P, P = sameP f g l m := ⟨_, rfl⟩
      rw [← hP] at hinj
      have HP := Lib.hid hP
      obtain ⟨L, hL⟩ : ∃ L, L = encP f.toNat l := ⟨_, rfl⟩
      obtain ⟨M, hM⟩ : ∃ M, M = encP g.toNat m := ⟨_, rfl⟩
      rw [← hL] at hlL HSL HCUTN HMORE hinj hpos HRB5 HNIL HCB ⊢
      rw [← hM] at hlM HSMM hinj HRC5 ⊢
      have HS9 := Lib.hid (fun (W : World) (hb : Below w5.heap.size w5 W) => ((same_any Ab Ac L.length cb M.length cc L M W (HRB5.out.ext (stays_b hb)) (HRC5.out.ext (stays_b hb)) HSL.out HSMM.out).mono fun e w' h => (⟨by rw [h.1, hinj], by rw [← h.2]; exact Below.refl _ _⟩ : e = .returned (.bool P) ∧ Below W.heap.size W w')))
      have HP9 := Lib.hid (fun (W : World) (hb : Below w5.heap.size w5 W) => (by have h := programs_any f g A A' n n' c c' l m W (H1.out.ext (stays_b (HB5.out.trans (hb.mono HB5.out.size)))) (H2.out.ext (stays_b (HB5.out.trans (hb.mono HB5.out.size)))) hn hn'; rw [← HP.out] at h; exact h : Calls Tryd.prog 15 #[.agg #[.int .i64 f, .slice A n c], .agg #[.int .i64 g, .slice A' n' c']] W fun e w' => e = .returned (.bool P) ∧ Below W.heap.size W w'))
      have HXX := Lib.hid (show ∀ w' : World, Below w5.heap.size w5 w' → w'.cell? ⟨w.heap.size, 0, none⟩ = some (.int .i64 f) ∧ w'.cell? ⟨w.heap.size, 1, none⟩ = some (.slice A n c) ∧ w'.cell? ⟨w.heap.size + 1, 0, none⟩ = some (.int .i64 g) ∧ w'.cell? ⟨w.heap.size + 1, 1, none⟩ = some (.slice A' n' c') ∧ Below w5.heap.size w5 w' from fun w' hb =>
        ⟨cell_of_row w' _ 0 _ 24 (0, 0) (box_later HX5.out hb), cell_of_row w' _ 1 _ 24 (0, 0) (box_later HX5.out hb), cell_of_row w' _ 0 _ 24 (0, 0) (box_later HY5.out hb), cell_of_row w' _ 1 _ 24 (0, 0) (box_later HY5.out hb), hb⟩)
      have hPP : (P != P) = false := by simp
      clear hck1 hck2 hh hh2 hsm hsm2 hinj hrc hP hL hM
      go_wp2_with fail
      go_region_held3 (fun w' => w'.cell? ⟨w.heap.size, 0, none⟩ = some (.int .i64 f) ∧ w'.cell? ⟨w.heap.size, 1, none⟩ = some (.slice A n c) ∧ w'.cell? ⟨w.heap.size + 1, 0, none⟩ = some (.int .i64 g) ∧ w'.cell? ⟨w.heap.size + 1, 1, none⟩ = some (.slice A' n' c') ∧ Below w5.heap.size w5 w')
        (first | exact HXX.out _ (Below.refl _ w5).drew | (go_split_ands; exact HXX.out _ (Below.trans (by assumption) (hbK.mono (Below.size (by assumption))))))
        (first | (go_at_call 20; go_split_ands; (with_reducible refine Calls.mono (HS9.out _ (by assumption)) ?_); rintro e w6 ⟨rfl, hbK⟩) | (go_at_call 15; go_split_ands; (with_reducible refine Calls.mono (HP9.out _ (by assumption)) ?_); rintro e w6 ⟨rfl, hbK⟩))
      all_goals
        rename_i hHeld
        have HHB := Lib.hid hHeld.2.2.2.2
        clear hHeld
        clear hbK
        rename World => w7
        obtain ⟨k, hkL, hkm⟩ := cut_mod cut L.length hpos hlL
        have hcb := HCB.out
        have HB7 := Lib.hid (HB5.out.trans (HHB.out.mono HB5.out.size))
        have HRB7 := Lib.hid (HRB5.out.ext (stays_b HHB.out))
        have hne : Ab ≠ none := fun e => by have := (HNIL.out e).2; omega
        have hd7 := decode_any Ab k cb (L.take k) w7 (HT.out.ext HB7.out) (rdv_take HRB7.out (by omega)) (fun e => absurd e hne) (by omega) (fun b hb => HSL.out b (List.mem_of_mem_take hb))
        have HD7 := Lib.hid hd7
        have HCN := Lib.hid (HCUTN.out k hkL)
        have HNE := Lib.hid hne
        obtain ⟨bq, hbq, hbw⟩ := cut_byte cut
        clear hd7 hne
        go_wp2_with fail
        refine Calls.mono HD7.out ?_
        rintro e w8 ⟨he8, hb8⟩
        obtain rfl := dec_none HCN.out he8
        have HB8 := Lib.hid (HB7.out.trans (hb8.mono HB7.out.size))
        have HRB8 := Lib.hid (HRB7.out.ext (stays_b (hb8.alloc hb8.size (.cells #[] 5))))
        have HOE := Lib.hid (own_empty w8 w8.heap.size 5 1 5 rfl (Nat.le_refl _))
        clear he8 hb8 hkm
        have HMO := Lib.hid (HMORE.out bq)
        have hnA : Ab = none → cb = 0 := fun e => absurd e HNE.out
        go_wp2_with (at_builtin; first | (refine wpList_append_rowv elemB rfl (.tmp 67) (.tmp 68) rfl w8.heap.size (.slice (some ⟨w8.heap.size, 0, none⟩) 0 0) 0 [] rfl HOE.out Ab L.length cb (valsB L) rfl HRB8.out (valsB_one _) hnA (by unfold maxLen; omega) (by omega) (by rw [World.size_alloc]; omega) ?_; intro v9 w9 hown9 hg9 hb9; obtain ⟨A9, c9, rfl, _, _, _⟩ := rdv_own hown9; rw [Nat.zero_add, List.nil_append] at hown9; have HO9 := Lib.hid (cut_own (bq := bq) hown9); have HB9 := Lib.hid (cut_below hg9); clear hown9 hg9 hb9) | (refine wpList_append_rowv elemB rfl (.tmp 69) (.tmp 72) rfl w8.heap.size (.slice A9 L.length c9) L.length (valsB L) rfl HO9.out (some ⟨w9.heap.size, 0, none⟩) 1 1 (valsB [bq]) rfl (rdv_b1 w9 bq) (valsB_one _) (fun h => by cases h) (by unfold maxLen; omega) (by omega) (by have := HB9.out.size; rw [World.size_alloc]; omega) ?_; intro v10 w10 hown10 hg10 hb10; have HO10 := Lib.hid hown10; have HB10 := Lib.hid (((HB9.out.alloc HB9.out.size (.cells #[.int .u8 (bq : Int)] 5))).grown hg10 (by have := HB9.out.size; rw [World.size_alloc]; omega) (fun q e => (own_cells HO9.out q e).1)); obtain ⟨A10, c10, rfl, _, _, _⟩ := rdv_own hown10; clear hown10 hg10 hb10))
        have HBB10 := Lib.hid (HB8.out.trans (HB10.out.mono HB8.out.size))
        have hr10 : Rdv w10 A10 (L.length + 1) 1 (valsB (L ++ [bq])) := by
          obtain ⟨_, _, e, hr, _, _⟩ := rdv_own HO10.out
          injection e with e1 _ e2
          subst e1 e2
          rw [valsB_append]
          exact hr
        have hn10 : A10 = none → c10 = 0 ∧ L.length + 1 = 0 := fun e => by
          obtain ⟨b, off, e2, _⟩ := hr10.2 (by omega)
          rw [e] at e2; cases e2
        have HD10 := Lib.hid (decode_any A10 (L.length + 1) c10 (L ++ [bq]) w10 (HT.out.ext HBB10.out) hr10 hn10 (by omega) (fun b hb => by
          rcases List.mem_append.1 hb with hb | hb
          · exact HSL.out b hb
          · rw [List.mem_singleton.1 hb]; exact hbq))
        clear hr10 hn10
        refine Calls.mono HD10.out ?_
        rintro e w11 ⟨he11, hb11⟩
        obtain rfl := dec_none HMO.out he11
        have HB11 := Lib.hid (HBB10.out.trans (hb11.mono HBB10.out.size))
        have HIS := Lib.hid (is_errno 2 (by decide) w11)
        clear he11 hb11
        go_wp2_with fail
        refine Calls.mono HIS.out ?_
        rintro e w12 ⟨rfl, rfl⟩
        go_wp2_with fail
        refine Calls.mono HIS.out ?_
        rintro e w12 ⟨rfl, rfl⟩
        go_wp2_with fail
        go_ret
        exact ⟨rfl, HB11.out⟩
    · obtain ⟨L, hL⟩ : ∃ L, L = encP f.toNat l := ⟨_, rfl⟩
      rw [← hL] at hpos HRB5 ⊢
      clear hL
      go_wp2_with fail
      go_ret
      exact ⟨rfl, HB5.out⟩
  · clear hck hfa
    go_wp2_with fail
    refine Calls.mono HEM.out ?_
    rintro e w5 ⟨he5, hb5⟩
    have HB5 := Lib.hid (HB4.out.trans (hb5.mono HB4.out.size))
    clear hb5
    rcases he5 with ⟨_, Ac, cc, rfl, _, _⟩ | ⟨_, b2, rfl, _, _⟩
    · go_wp2_with fail
      go_ret
      exact ⟨rfl, HB5.out⟩
    · go_wp2_with fail
      go_ret
      exact ⟨rfl, HB5.out⟩
end Go.Proofs.YtkeckjgihjpfbaaDoor

/- AsmApart answers true of whatever programs: the walk. -/
namespace Go.Proofs.YtkeckjgihjpfbaaDoor
set_option maxRecDepth 100000
open Go.RowKit
attribute [local go_sem ↓] Go.wp_at_zero Go.wp_at_succ

theorem idx_tx (l : List UInt8) (k : Nat) (hk : k < l.length) (w : World) : (Instr.index 9 (.string (tx l)) (.int .i64 (k : Int))).run Tryd.prog w = .ok (.int .u8 (((l[k]).toNat : Nat) : Int)) w := by
  have h := idx_str (l.map UInt8.toNat) (fun x hx => by obtain ⟨b, _, rfl⟩ := List.mem_map.1 hx; exact b.toNat_lt) k (by simpa using hk) w
  rw [strN_tx, List.map_map] at h
  have e : l.map (UInt8.ofNat ∘ UInt8.toNat) = l := by
    conv => rhs; rw [← List.map_id l]
    exact List.map_congr_left fun b _ => by simp
  rw [e, List.getElem_map] at h
  exact h
theorem same_texts {f g : Int} {l m : List Ins} (h1 : chk f l = -2) (h2 : chk g m = -2) : ((tx (printLs f l)).toList == (tx (printLs g m)).toList) = sameP f g l m := by
  rw [tx_toList, tx_toList]
  by_cases h : printLs f l = printLs g m
  · obtain ⟨rfl, rfl⟩ := print_inj h1 h2 h
    simp [sameP]
  · rw [beq_eq_false_iff_ne.2 h]
    cases hs : sameP f g l m with
    | false => rfl
    | true =>
      simp only [sameP, Bool.and_eq_true, decide_eq_true_iff] at hs
      obtain ⟨rfl, rfl⟩ := hs
      exact absurd rfl h
set_option maxHeartbeats 16000000 in
theorem apart_law (f g : Int) (hf : Fits f) (hg : Fits g) (A A' : Option Addr) (n n' c c' : Nat) (l m : List Ins) (w : World) (hT : AT w) (h1 : Codes w A n l) (h2 : Codes w A' n' m) (hn : n ≤ 9223372036854775807) (hn' : n' ≤ 9223372036854775807) (hok : ∀ x ∈ l, Ins.Ok x) (hok' : ∀ x ∈ m, Ins.Ok x) :
    Calls Tryd.prog 10 #[.agg #[.int .i64 f, .slice A n c], .agg #[.int .i64 g, .slice A' n' c']] w fun e w' => e = .returned (.bool true) ∧ Below w.heap.size w w' := by
  obtain ⟨hx, hy⟩ := two_cells w f g A A' n n' c c'
  have hb := two_boxes w f g A A' n n' c c'
  have HAL := Lib.hid (asm_alive _ (hT.ext hb))
  have HBX := Lib.hid hb
  have HX0 := Lib.hid hx
  have HY0 := Lib.hid hy
  have HT := Lib.hid hT
  have H1 := Lib.hid h1
  have H2 := Lib.hid h2
  have HOK := Lib.hid hok
  have HOK' := Lib.hid hok'
  have HF := Lib.hid hf
  have HG := Lib.hid hg
  have HLL := Lib.hid h1.len
  clear hx hy hb hT h1 h2 hok hok' hf hg
  go_enter Tryd.func10, Tryd.ntmps10
  go_wp2_with fail
  refine Calls.mono HAL.out ?_
  rintro e w1 ⟨rfl, hb1⟩
  have HB1 := Lib.hid (HBX.out.trans (hb1.mono HBX.out.size))
  have HX1 := Lib.hid (box_later HX0.out hb1)
  have HY1 := Lib.hid (box_later HY0.out hb1)
  have x0 : w1.cell? ⟨w.heap.size, 0, none⟩ = some (.int .i64 f) := cell_of_row w1 _ 0 _ 24 (0, 0) HX1.out
  have x1 : w1.cell? ⟨w.heap.size, 1, none⟩ = some (.slice A n c) := cell_of_row w1 _ 1 _ 24 (0, 0) HX1.out
  have y1 : w1.cell? ⟨w.heap.size + 1, 1, none⟩ = some (.slice A' n' c') := cell_of_row w1 _ 1 _ 24 (0, 0) HY1.out
  clear hb1
  by_cases hl : 100 < n
  · have d1 : decide ((100 : Int) < (n : Int)) = true := decide_eq_true (by omega)
    clear hl
    go_wp2_with fail
    go_ret
    exact ⟨rfl, HB1.out⟩
  have d1 : decide ((100 : Int) < (n : Int)) = false := decide_eq_false (by omega)
  by_cases hl' : 100 < n'
  · have d2 : decide ((100 : Int) < (n' : Int)) = true := decide_eq_true (by omega)
    clear hl hl'
    go_wp2_with fail
    go_ret
    exact ⟨rfl, HB1.out⟩
  have d2 : decide ((100 : Int) < (n' : Int)) = false := decide_eq_false (by omega)
  have hn1 : n ≤ 100 := by omega
  have HP1 := Lib.hid (print_any f HF.out A n c l w1 (HT.out.ext HB1.out) (H1.out.ext (stays_b HB1.out)) hn HOK.out)
  clear hl hl'
  go_wp2_with fail
  refine Calls.mono HP1.out ?_
  rintro e w2 ⟨he2, hb2⟩
  have HB2 := Lib.hid (HB1.out.trans (hb2.mono HB1.out.size))
  have HX2 := Lib.hid (box_later HX1.out hb2)
  have HY2 := Lib.hid (box_later HY1.out hb2)
  have y0 : w2.cell? ⟨w.heap.size + 1, 0, none⟩ = some (.int .i64 g) := cell_of_row w2 _ 0 _ 24 (0, 0) HY2.out
  have HP2 := Lib.hid (print_any g HG.out A' n' c' m w2 (HT.out.ext HB2.out) (H2.out.ext (stays_b HB2.out)) hn' HOK'.out)
  clear x0 x1 y1 hb2
  have y1 : w2.cell? ⟨w.heap.size + 1, 1, none⟩ = some (.slice A' n' c') := cell_of_row w2 _ 1 _ 24 (0, 0) HY2.out
  rcases he2 with ⟨hck, rfl⟩ | ⟨_, b, rfl, _, _⟩
  · have HCK := Lib.hid hck
    have hlen := printLs_len HF.out l HOK.out
    have HLAST := Lib.hid (print_last f l)
    have HCNT := Lib.hid (print_count f l)
    have HSAME := Lib.hid (fun h2 => same_texts (m := m) (g := g) hck h2)
    have HPRG := Lib.hid (fun (W : World) (hb : Below w2.heap.size w2 W) => programs_any f g A A' n n' c c' l m W (H1.out.ext (stays_b (HB2.out.trans (hb.mono HB2.out.size)))) (H2.out.ext (stays_b (HB2.out.trans (hb.mono HB2.out.size)))) hn hn')
    obtain ⟨P, hP⟩ : ∃ P, P = sameP f g l m := ⟨_, rfl⟩
    rw [← hP] at HSAME HPRG
    obtain ⟨L, hL⟩ : ∃ L, L = printLs f l := ⟨_, rfl⟩
    rw [← hL] at hlen HLAST HCNT HSAME ⊢
    have hpos : 0 < L.length := by
      rcases Nat.eq_zero_or_pos L.length with h | h
      · have := HLAST.out; rw [List.getElem?_eq_none (by omega)] at this; cases this
      · exact h
    have hl3 : L.length ≤ 20000 := by rw [HLL.out] at hlen; omega
    have HIX := Lib.hid (idx_tx L)
    have hsz := tx_size L
    have HIL := Lib.hid (show ∀ w, (Instr.index 9 (.string (tx L)) (.int .i64 ((L.length : Int) - 1))).run Tryd.prog w = .ok (.int .u8 10) w from fun w => by
      have h := HIX.out (L.length - 1) (by omega) w
      have h2 := HLAST.out
      rw [List.getElem?_eq_getElem (by omega)] at h2
      rw [Option.some.inj h2] at h
      rw [show ((L.length - 1 : Nat) : Int) = (L.length : Int) - 1 by omega] at h
      exact h)
    clear hck hP hL hlen
    go_wp2_with fail
    refine Calls.mono HP2.out ?_
    rintro e w3 ⟨he3, hb3⟩
    have HB3 := Lib.hid (HB2.out.trans (hb3.mono HB2.out.size))
    have HX3 := Lib.hid (box_later HX2.out hb3)
    have HY3 := Lib.hid (box_later HY2.out hb3)
    have HPR := Lib.hid (HPRG.out w3 hb3)
    clear y0 y1 hb3
    rcases he3 with ⟨hck2, rfl⟩ | ⟨_, b2, rfl, _, _⟩
    · have hst := HSAME.out hck2
      have hil := HIL.out
      have d3 : ((L.length : Int) == 0) = false := by rw [beq_eq_false_iff_ne]; omega
      have hPP : (P == P) = true := by simp
      obtain ⟨M, hM⟩ : ∃ M, M = tx (printLs g m) := ⟨_, rfl⟩
      obtain ⟨S, hS⟩ : ∃ S, S = tx L := ⟨_, rfl⟩
      obtain ⟨N, hN⟩ : ∃ N, N = L.length := ⟨_, rfl⟩
      rw [← hM] at hst ⊢
      rw [← hS] at hst hil hsz HIX ⊢
      rw [← hN] at hsz hil d3 hpos hl3
      have HNN := Lib.hid hN
      clear hck2 hM hS hN
      go_wp2_with fail
      clear hil d3
      go_loopw [9, 52] (fun t i wr => ∃ k : Nat, i = .int .i64 (k : Int) ∧ k ≤ N ∧ t = .int .i64 (((L.take k).count 10 : Nat) : Int) ∧ wr = w3) (fun _ i _ => N - (intOf i).toNat)
      case atStart => exact ⟨0, rfl, by omega, rfl, rfl⟩
      case round =>
        obtain ⟨k, rfl, hk, rfl, rfl⟩ := hrel
        by_cases hlt : k < N
        · have hkl : k < L.length := by rw [← HNN.out]; exact hlt
          have hix := HIX.out k hkl
          have HTK := Lib.hid (show L.take (k + 1) = L.take k ++ [L[k]] from List.take_succ_eq_append_getElem hkl)
          have hcl : (L.take k).count 10 ≤ k := by have := List.count_le_length (a := (10 : UInt8)) (l := L.take k); rw [List.length_take] at this; omega
          obtain ⟨q, hq⟩ : ∃ q, q = L[k] := ⟨_, rfl⟩
          rw [← hq] at hix HTK
          obtain ⟨C, hC⟩ : ∃ C, C = (L.take k).count 10 := ⟨_, rfl⟩
          rw [← hC] at hcl ⊢
          have HC := Lib.hid hC
          clear hq hC
          by_cases h10 : q = 10
          · have HE := Lib.hid (show (L.take (k + 1)).count 10 = C + 1 by rw [HTK.out, List.count_append, ← HC.out, h10]; rfl)
            have d4 : ((q.toNat : Int) == 10) = true := by rw [h10]; rfl
            clear h10
            go_wp2_with fail
            go_roundw
            case rel => exact ⟨k + 1, by go_num, by omega, by rw [HE.out]; go_num, trivial⟩
            case measure => simp [intOf]; omega
          · have HE := Lib.hid (show (L.take (k + 1)).count 10 = C by rw [HTK.out, List.count_append, ← HC.out, List.count_singleton, beq_eq_false_iff_ne.2 h10]; rfl)
            have d4 : ((q.toNat : Int) == 10) = false := by
              rw [beq_eq_false_iff_ne]
              intro h
              exact h10 (UInt8.toNat_inj.1 (by have e : (10 : UInt8).toNat = 10 := rfl; omega))
            clear h10
            go_wp2_with fail
            go_roundw
            case rel => exact ⟨k + 1, by go_num, by omega, by rw [HE.out], trivial⟩
            case measure => simp [intOf]; omega
        · obtain rfl : k = N := by omega
          have hce : (L.take k).count 10 = 1 + n := by rw [HNN.out, List.take_length, HCNT.out, HLL.out]
          rw [hce]
          have e1 : ((1 + n : Nat) : Int) = 1 + (n : Int) := by omega
          rw [e1]
          have x0 : wr.cell? ⟨w.heap.size, 0, none⟩ = some (.int .i64 f) := cell_of_row wr _ 0 _ 24 (0, 0) HX3.out
          have x1 : wr.cell? ⟨w.heap.size, 1, none⟩ = some (.slice A n c) := cell_of_row wr _ 1 _ 24 (0, 0) HX3.out
          have y0 : wr.cell? ⟨w.heap.size + 1, 0, none⟩ = some (.int .i64 g) := cell_of_row wr _ 0 _ 24 (0, 0) HY3.out
          have y1 : wr.cell? ⟨w.heap.size + 1, 1, none⟩ = some (.slice A' n' c') := cell_of_row wr _ 1 _ 24 (0, 0) HY3.out
          clear hce e1
          go_wp2_with fail
          refine Calls.mono HPR.out ?_
          rintro e w4 ⟨rfl, hb4⟩
          have HB4 := Lib.hid (HB3.out.trans (hb4.mono HB3.out.size))
          have HX4 := Lib.hid (box_later HX3.out hb4)
          clear x0 x1 y0 y1 hb4
          have x1 : w4.cell? ⟨w.heap.size, 1, none⟩ = some (.slice A n c) := cell_of_row w4 _ 1 _ 24 (0, 0) HX4.out
          go_wp2_with fail
          go_ret
          exact ⟨rfl, HB4.out⟩
    · go_wp2_with fail
      go_ret
      exact ⟨rfl, HB3.out⟩
  · go_wp2_with fail
    refine Calls.mono HP2.out ?_
    rintro e w3 ⟨he3, hb3⟩
    have HB3 := Lib.hid (HB2.out.trans (hb3.mono HB2.out.size))
    clear hb3
    rcases he3 with ⟨_, rfl⟩ | ⟨_, b2, rfl, _, _⟩
    · go_wp2_with fail
      go_ret
      exact ⟨rfl, HB3.out⟩
    · go_wp2_with fail
      go_ret
      exact ⟨rfl, HB3.out⟩
end Go.Proofs.YtkeckjgihjpfbaaDoor

/- Layer 7: the document's Number. -/
namespace Go.Proofs.YtkeckjgihjpfbaaDoor
set_option maxRecDepth 100000
open Go.RowKit
attribute [local go_sem ↓] Go.wp_at_zero Go.wp_at_succ

theorem nDigits_le19 (u : Nat) (h : u < 10000000000000000000) : Lib.nDigits u ≤ 19 := by
  rcases Nat.lt_or_ge 19 (Lib.nDigits u) with h1 | h1
  · have h2 : ∀ k u : Nat, k < Lib.nDigits u → k = 0 ∨ 10 ^ k ≤ u := by
      intro k
      induction k with
      | zero => intro u _; exact .inl rfl
      | succ k ih =>
        intro u hu
        refine .inr ?_
        by_cases hs : u < 10
        · rw [Lib.nDigits_small hs] at hu; omega
        · rw [Lib.nDigits_big hs] at hu
          rcases ih (u / 10) (by omega) with h3 | h3
          · subst h3; omega
          · rw [Nat.pow_succ]; omega
    rcases h2 19 u h1 with h3 | h3
    · omega
    · have : (10 : Nat) ^ 19 = 10000000000000000000 := by decide
      omega
  · exact h1
theorem itoa_len20 (z : Int) (hz : Fits z) : 1 ≤ (Lib.itoa z).length ∧ (Lib.itoa z).length ≤ 20 := by
  unfold Fits at hz
  unfold Lib.itoa
  split
  · have h1 := nDigits_le19 z.natAbs (by omega)
    rw [List.length_cons, Lib.decDigits_length]; omega
  · have h1 := nDigits_le19 z.toNat (by omega)
    have h2 := Lib.nDigits_pos z.toNat
    rw [Lib.decDigits_length]; omega
def startN (s : List UInt8) : Nat := if s.head? = some 45 then 1 else 0
/-- What the digits behind the sign come to. -/
theorem num_known {s : List UInt8} {z : Int} (h : numO s = some z) : (∀ b ∈ s.drop (startN s), 48 ≤ b.toNat ∧ b.toNat ≤ 57) ∧ (if startN s = 0 then (valD (s.drop (startN s)) : Int) = z else (valD (s.drop (startN s)) : Int) = -z) ∧ Fits z := by
  obtain ⟨hz, rfl⟩ := (numO_iff _ _).1 h
  unfold startN Lib.itoa
  split
  · rename_i hn
    rw [show (45 :: Lib.decDigits z.natAbs).head? = some 45 from rfl, if_pos rfl]
    refine ⟨dec_mem _, ?_, hz⟩
    rw [if_neg (by decide)]
    show ((valD (Lib.decDigits z.natAbs) : Nat) : Int) = -z
    rw [valD_dec]; omega
  · obtain ⟨c, r, e, hc⟩ := dec_cons z.toNat
    have hne : ¬ (Lib.decDigits z.toNat).head? = some 45 := by
      rw [e]
      intro h2
      have h3 : c = 45 := Option.some.inj h2
      rw [h3] at hc
      have : (45 : UInt8).toNat = 45 := rfl
      omega
    rw [if_neg hne, if_pos rfl, List.drop_zero]
    refine ⟨dec_mem _, ?_, hz⟩
    rw [valD_dec]; omega
theorem valD_snoc (l : List UInt8) (b : UInt8) : valD (l ++ [b]) = 10 * valD l + (b.toNat - 48) := by
  unfold valD; rw [List.foldl_append]; rfl
theorem fits_eq {a b : Int} (ha : Fits a) (hb : Fits b) (h : (a - b) % 18446744073709551616 = 0) : a = b := by unfold Fits at ha hb; omega
/-- The end of the figures. -/
theorem num_end {s : List UInt8} {n : Int} (hn : Fits n) (h : if startN s = 0 then (n - valD (s.drop (startN s))) % 18446744073709551616 = 0 else (n + valD (s.drop (startN s))) % 18446744073709551616 = 0) : numO s = if Lib.itoa n = s then some n else none := by
  by_cases he : Lib.itoa n = s
  · rw [if_pos he]; exact (numO_iff _ _).2 ⟨hn, he⟩
  · rw [if_neg he]
    cases hm : numO s with
    | none => rfl
    | some z =>
      obtain ⟨_, h2, hz⟩ := num_known hm
      have h3 : n = z := by
        refine fits_eq hn hz ?_
        split at h
        · rename_i h0; rw [if_pos h0] at h2; omega
        · rename_i h0; rw [if_neg h0] at h2; omega
      exact absurd (h3 ▸ ((numO_iff _ _).1 hm).2) he
theorem fits_wrap (z : Int) : Fits (wrap64 z) := by unfold Fits wrap64; omega
theorem num_step {nn : Int} {v d : Nat} (h : (nn + v) % 18446744073709551616 = 0) (hd : 48 ≤ d ∧ d ≤ 57) : (wrap64 (wrap64 (10 * nn) - ((d : Int) - 48)) + ((10 * v + (d - 48) : Nat) : Int)) % 18446744073709551616 = 0 := by
  unfold wrap64; omega
theorem num_len {s : List UInt8} (h : s.length < 1 ∨ 20 < s.length) : numO s = none := by
  cases hm : numO s with
  | none => rfl
  | some z =>
    obtain ⟨hz, rfl⟩ := (numO_iff _ _).1 hm
    have := itoa_len20 z hz
    omega
theorem num_bad {s : List UInt8} {b : UInt8} (hb : b ∈ s.drop (startN s)) (h : b.toNat < 48 ∨ 57 < b.toNat) : numO s = none := by
  cases hm : numO s with
  | none => rfl
  | some z =>
    have := (num_known hm).1 b hb
    omega
set_option maxHeartbeats 8000000 in
theorem refnumber_any (s : List UInt8) (hs : s.length ≤ 100000) (w : World) : Calls Tryd.prog 60 #[.string (tx s)] w fun e w' => e = .returned (optV (numO s)) ∧ w = w' := by
  have hsz := tx_size s
  have HIX := Lib.hid (idx_tx s)
  obtain ⟨N, hN⟩ : ∃ N, N = s.length := ⟨_, rfl⟩
  obtain ⟨S, hS⟩ : ∃ S, S = tx s := ⟨_, rfl⟩
  have HTE := Lib.hid (show ∀ n : Int, ((tx (Lib.itoa n)).toList == S.toList) = decide (Lib.itoa n = s) from fun n => by
    rw [hS, tx_toList, tx_toList]
    by_cases h : Lib.itoa n = s
    · rw [h]; simp
    · rw [decide_eq_false h]; exact beq_eq_false_iff_ne.2 h)
  rw [← hS] at hsz HIX ⊢
  rw [← hN] at hsz hs
  have HNN := Lib.hid hN
  have HNL := Lib.hid (show N < 1 ∨ 20 < N → numO s = none from fun h => num_len (by omega))
  have HBAD := Lib.hid (fun (b : UInt8) => num_bad (s := s) (b := b))
  have HEND := Lib.hid (fun (n : Int) => num_end (s := s) (n := n))
  obtain ⟨O, hO⟩ : ∃ O, O = numO s := ⟨_, rfl⟩
  rw [← hO] at HNL HBAD HEND ⊢
  obtain ⟨a0, ha0⟩ : ∃ a, a = startN s := ⟨_, rfl⟩
  rw [← ha0] at HBAD HEND
  have HA0 := Lib.hid ha0
  clear hN hS hO ha0
  by_cases h1 : N < 1
  · have hO := HNL.out (.inl h1)
    have d1 : decide ((N : Int) < 1) = true := decide_eq_true (by omega)
    subst hO
    rw [optV_none]
    go_enter Tryd.func60, Tryd.ntmps60
    go_wp2_with fail
    go_ret2
    exact ⟨rfl, rfl⟩
  have d1 : decide ((N : Int) < 1) = false := decide_eq_false (by omega)
  by_cases h2 : 20 < N
  · have hO := HNL.out (.inr h2)
    have d2 : decide ((20 : Int) < (N : Int)) = true := decide_eq_true (by omega)
    subst hO
    rw [optV_none]
    clear h1
    go_enter Tryd.func60, Tryd.ntmps60
    go_wp2_with fail
    go_ret2
    exact ⟨rfl, rfl⟩
  have d2 : decide ((20 : Int) < (N : Int)) = false := decide_eq_false (by omega)
  have hN20 : N ≤ 20 := by omega
  have hN1 : 0 < N := by omega
  have hi0 := HIX.out 0 (by rw [← HNN.out]; exact hN1)
  obtain ⟨b0, hb0⟩ : ∃ b, b = s[0]'(by rw [← HNN.out]; exact hN1) := ⟨_, rfl⟩
  rw [← hb0] at hi0
  have hi0 : (Instr.index 9 (.string S) (.int .i64 0)).run Tryd.prog w = .ok (.int .u8 ((b0.toNat : Nat) : Int)) w := hi0 w
  have HST := Lib.hid (show a0 = if b0 = 45 then 1 else 0 by
    rw [HA0.out]
    unfold startN
    rw [hb0]
    have hl : 0 < s.length := by rw [← HNN.out]; exact hN1
    cases s with
    | nil => simp at hl
    | cons x r => simp)
  clear h1 h2 hb0
  have HSTEP := Lib.hid (show ∀ (j : Nat) (h : a0 + j < s.length), (s.drop a0).take (j + 1) = (s.drop a0).take j ++ [s[a0 + j]] ∧ s[a0 + j] ∈ s.drop a0 from fun j h => by
    have hl : j < (s.drop a0).length := by rw [List.length_drop]; omega
    have he : (s.drop a0)[j] = s[a0 + j] := List.getElem_drop ..
    refine ⟨by rw [List.take_succ_eq_append_getElem hl, he], ?_⟩
    rw [← he]; exact List.getElem_mem hl)
  by_cases h45 : b0 = 45
  case' pos =>
    have d3 : ((b0.toNat : Int) == 45) = true := by rw [h45]; rfl
    have HA1 := Lib.hid (show a0 = 1 by rw [HST.out, if_pos h45])
    obtain ⟨q, hq⟩ : ∃ q : Nat, q = 1 := ⟨_, rfl⟩
  case' neg =>
    have d3 : ((b0.toNat : Int) == 45) = false := by
      rw [beq_eq_false_iff_ne]
      intro h
      exact h45 (UInt8.toNat_inj.1 (by have e : (45 : UInt8).toNat = 45 := rfl; omega))
    have HA1 := Lib.hid (show a0 = 0 by rw [HST.out, if_neg h45])
    obtain ⟨q, hq⟩ : ∃ q : Nat, q = 0 := ⟨_, rfl⟩
  all_goals
    have HA2 := Lib.hid (show a0 = q by rw [HA1.out, hq])
    have HQ := Lib.hid hq
    clear h45 hq
    go_enter Tryd.func60, Tryd.ntmps60
    go_wp2_with fail
    go_loop [5, 6] (fun n i => ∃ (j : Nat) (nn : Int), i = .int .i64 ((q + j : Nat) : Int) ∧ n = .int .i64 nn ∧ Fits nn ∧ (nn + valD ((s.drop a0).take j)) % 18446744073709551616 = 0 ∧ q + j ≤ N) (fun _ i => N - (intOf i).toNat)
    case atStart => exact ⟨0, 0, by rw [HQ.out]; rfl, rfl, by unfold Fits; decide, by rw [List.take_zero]; rfl, by have := HQ.out; omega⟩
    case round =>
      obtain ⟨j, nn, rfl, rfl, hf, hv, hj⟩ := hrel
      have HF := Lib.hid hf
      have HV := Lib.hid hv
      clear hf hv
      obtain ⟨k, hk⟩ : ∃ k, k = q + j := ⟨_, rfl⟩
      have HK := Lib.hid hk
      rw [← hk] at hj ⊢
      clear hk
      by_cases hlt : k < N
      · have hkl : a0 + j < s.length := by rw [← HNN.out, HA2.out, ← HK.out]; exact hlt
        have hix := HIX.out (a0 + j) hkl
        obtain ⟨hs1, hs2⟩ := HSTEP.out j hkl
        obtain ⟨b, hb⟩ : ∃ b, b = s[a0 + j] := ⟨_, rfl⟩
        rw [← hb] at hix hs1 hs2
        have hix := hix w
        rw [show a0 + j = k by rw [HA2.out, HK.out]] at hix
        have HS1 := Lib.hid hs1
        have HBD := Lib.hid (fun h => HBAD.out b hs2 h)
        clear hb hs1 hs2 hi0 hkl
        by_cases hbad : b.toNat < 48 ∨ 57 < b.toNat
        · have hO := HBD.out hbad
          subst hO
          rcases hbad with h | h
          · have d4 : decide ((b.toNat : Int) < 48) = true := decide_eq_true (by omega)
            go_wp2_with fail
            go_ret2
            exact ⟨rfl, rfl⟩
          · have d4 : decide ((b.toNat : Int) < 48) = false := decide_eq_false (by omega)
            have d5 : decide ((57 : Int) < (b.toNat : Int)) = true := decide_eq_true (by omega)
            go_wp2_with fail
            go_ret2
            exact ⟨rfl, rfl⟩
        · have d4 : decide ((b.toNat : Int) < 48) = false := decide_eq_false (by omega)
          have d5 : decide ((57 : Int) < (b.toNat : Int)) = false := decide_eq_false (by omega)
          have HB1 := Lib.hid (show 48 ≤ b.toNat ∧ b.toNat ≤ 57 by omega)
          obtain ⟨d, hd⟩ : ∃ d, d = b.toNat := ⟨_, rfl⟩
          rw [← hd] at hix d4 d5 HB1
          have HD := Lib.hid hd
          have hd1 : (48 : Int) ≤ (d : Int) := by have := HB1.out; omega
          have hd2 : (d : Int) ≤ 57 := by have := HB1.out; omega
          clear hbad hd
          go_wp2_with fail
          go_round
          case rel => exact ⟨j + 1, _, by rw [HK.out]; go_num, rfl, fits_wrap _, by rw [HS1.out, valD_snoc, ← HD.out]; exact num_step HV.out HB1.out, by have := HK.out; omega⟩
          case measure => simp [intOf]; omega
      · have hkN : k = N := by omega
        have hvv : (nn + valD (s.drop a0)) % 18446744073709551616 = 0 := by
          have h := HV.out
          rw [List.take_of_length_le (by rw [List.length_drop, ← HNN.out, HA2.out, ← hkN, HK.out]; omega)] at h
          exact h
        subst hkN
        clear hi0
        by_cases hq0 : q = 0
        · first
          | exact absurd HQ.out (by omega)
          | (have hE := HEND.out (wrap64 (-nn)) (fits_wrap _) (by rw [if_pos (by rw [HA2.out, hq0])]; unfold wrap64; omega)
             have HFG := figures_any (wrap64 (-nn)) (fits_wrap _) w
             have hte := HTE.out (wrap64 (-nn))
             have hm2 : wrap64 (-nn) = wrap64 (-nn) := rfl
             obtain ⟨t, ht⟩ : ∃ t, t = tx (Lib.itoa (wrap64 (-nn))) := ⟨_, rfl⟩
             rw [← ht] at HFG hte
             have HFG := Lib.hid HFG
             clear ht hvv hm2 hq0
             by_cases he : Lib.itoa (wrap64 (-nn)) = s
             · rw [decide_eq_true he] at hte
               rw [if_pos he] at hE
               have hne : (t.toList != S.toList) = false := by rw [bne, hte]; rfl
               subst hE
               clear he
               go_wp2_with fail
               refine Calls.mono HFG.out ?_
               rintro e w' ⟨rfl, rfl⟩
               go_wp2_with fail
               go_ret2
               exact ⟨rfl, rfl⟩
             · rw [decide_eq_false he] at hte
               rw [if_neg he] at hE
               have hne : (t.toList != S.toList) = true := by rw [bne, hte]; rfl
               subst hE
               clear he
               go_wp2_with fail
               refine Calls.mono HFG.out ?_
               rintro e w' ⟨rfl, rfl⟩
               go_wp2_with fail
               go_ret2
               exact ⟨rfl, rfl⟩)
        · first
          | exact absurd HQ.out hq0
          | (have hE := HEND.out nn HF.out (by rw [if_neg (by rw [HA2.out]; exact hq0)]; exact hvv)
             have HFG := figures_any nn HF.out w
             have hte := HTE.out nn
             obtain ⟨t, ht⟩ : ∃ t, t = tx (Lib.itoa nn) := ⟨_, rfl⟩
             rw [← ht] at HFG hte
             have HFG := Lib.hid HFG
             clear ht hvv hq0
             by_cases he : Lib.itoa nn = s
             · rw [decide_eq_true he] at hte
               rw [if_pos he] at hE
               have hne : (t.toList != S.toList) = false := by rw [bne, hte]; rfl
               subst hE
               clear he
               go_wp2_with fail
               refine Calls.mono HFG.out ?_
               rintro e w' ⟨rfl, rfl⟩
               go_wp2_with fail
               go_ret2
               exact ⟨rfl, rfl⟩
             · rw [decide_eq_false he] at hte
               rw [if_neg he] at hE
               have hne : (t.toList != S.toList) = true := by rw [bne, hte]; rfl
               subst hE
               clear he
               go_wp2_with fail
               refine Calls.mono HFG.out ?_
               rintro e w' ⟨rfl, rfl⟩
               go_wp2_with fail
               go_ret2
               exact ⟨rfl, rfl⟩)
end Go.Proofs.YtkeckjgihjpfbaaDoor

/- Layer 7, of no program: what the document's code of a line comes to. -/
namespace Go.Proofs.YtkeckjgihjpfbaaDoor
set_option maxRecDepth 100000

/-- A word without its mark, as the document cuts it. -/
def restR (l : Nat) (w : List UInt8) : List UInt8 := if (l ≠ 110 ∧ l ≠ 107 ∧ l ≠ 115 ∧ l ≠ 106) ∧ 0 < w.length then w.drop 1 else w
def signU (w : List UInt8) (z : Int) : Nat → Int
  | 0 => z
  | k + 1 => if signL (k : Int) = w then (k : Int) else signU w z k
def rvalR (l : Nat) (w : List UInt8) : Int := if l = 106 then signU (restR l w) ((numO (restR l w)).getD 0) 4 else (numO (restR l w)).getD 0
def opU (w : List UInt8) : Nat → Int
  | 0 => -1
  | k + 1 => if wordL (k : Int) = w then (k : Int) else opU w k
theorem opU_at (w : List UInt8) : opU w 16 = opOf w := by
  have no : ∀ k : Nat, (∀ j : Nat, j < k → wordL (j : Int) ≠ w) → opU w k = -1 := by
    intro k
    induction k with
    | zero => intro _; rfl
    | succ k ih =>
      intro h
      unfold opU
      rw [if_neg (h k (by omega))]
      exact ih fun j hj => h j (by omega)
  rcases opOf_ways w with ⟨h1, h2⟩ | ⟨h1, h2⟩
  · rw [h1]
    exact no 16 fun j hj => h2 j (by omega)
  · obtain ⟨k, hk⟩ := Int.eq_ofNat_of_zero_le h1.1
    rw [hk] at h1 h2 ⊢
    have hk16 : k < 16 := by omega
    have yes : ∀ n : Nat, k < n → n ≤ 16 → opU w n = k := by
      intro n
      induction n with
      | zero => intro h; omega
      | succ n ih =>
        intro h1 h3
        unfold opU
        by_cases he : n = k
        · subst he; rw [if_pos h2]
        · rw [if_neg fun h4 => he (by have := wordL_inj (a := (n : Int)) (b := (k : Int)) (by omega) (by omega) (h4.trans h2.symm); omega)]
          exact ih (by omega) (by omega)
    exact yes 16 hk16 (by omega)
theorem numO_fits {w : List UInt8} : Fits ((numO w).getD 0) := by
  cases h : numO w with
  | none => show Fits 0; unfold Fits; decide
  | some z => exact ((numO_iff _ _).1 h).1
theorem signU_fits {w : List UInt8} {z : Int} (h : Fits z) : ∀ k : Nat, k ≤ 4 → Fits (signU w z k)
  | 0, _ => h
  | k + 1, hk => by
    unfold signU
    split
    · unfold Fits; omega
    · exact signU_fits h k (by omega)
theorem rvalR_fits (l : Nat) (w : List UInt8) : Fits (rvalR l w) := by
  unfold rvalR
  split
  · exact signU_fits numO_fits 4 (by omega)
  · exact numO_fits
theorem signU_ways (w : List UInt8) (z : Int) : (0 ≤ signU w z 4 ∧ signU w z 4 ≤ 3 ∧ signL (signU w z 4) = w) ∨ signU w z 4 = z ∧ ∀ k : Nat, k < 4 → signL (k : Int) ≠ w := by
  have e : signU w z 4 = if signL 3 = w then 3 else if signL 2 = w then 2 else if signL 1 = w then 1 else if signL 0 = w then 0 else z := rfl
  rw [e]
  by_cases h3 : signL 3 = w
  · rw [if_pos h3]; exact .inl ⟨by omega, by omega, h3⟩
  rw [if_neg h3]
  by_cases h2 : signL 2 = w
  · rw [if_pos h2]; exact .inl ⟨by omega, by omega, h2⟩
  rw [if_neg h2]
  by_cases h1 : signL 1 = w
  · rw [if_pos h1]; exact .inl ⟨by omega, by omega, h1⟩
  rw [if_neg h1]
  by_cases h0 : signL 0 = w
  · rw [if_pos h0]; exact .inl ⟨by omega, by omega, h0⟩
  rw [if_neg h0]
  refine .inr ⟨rfl, fun k hk => ?_⟩
  have : k = 0 ∨ k = 1 ∨ k = 2 ∨ k = 3 := by omega
  rcases this with rfl | rfl | rfl | rfl
  · exact h0
  · exact h1
  · exact h2
  · exact h3
theorem signL_inj {a b : Int} (ha : 0 ≤ a ∧ a ≤ 3) (hb : 0 ≤ b ∧ b ≤ 3) (h : signL a = signL b) : a = b := by
  have h1 : a = 0 ∨ a = 1 ∨ a = 2 ∨ a = 3 := by omega
  have h2 : b = 0 ∨ b = 1 ∨ b = 2 ∨ b = 3 := by omega
  rcases h1 with rfl | rfl | rfl | rfl <;> rcases h2 with rfl | rfl | rfl | rfl <;> first | rfl | exact absurd h (by decide)
theorem rest_j (w : List UInt8) : restR 106 w = w := by unfold restR; rw [if_neg]; rintro ⟨⟨_, _, _, h⟩, _⟩; exact h rfl
theorem numO_itoa {z : Int} (hz : Fits z) : numO (Lib.itoa z) = some z := (numO_iff _ _).2 ⟨hz, rfl⟩
theorem rvalR_val {l : Nat} {w : List UInt8} {z : Int} (hl : l = 97 ∨ l = 98 ∨ l = 99 ∨ l = 116 ∨ l = 110 ∨ l = 107 ∨ l = 115 ∨ l = 106) (h : valO l w = some z) : rvalR l w = z := by
  obtain ⟨⟨hz, hj⟩, hw⟩ := (valO_iff _ _ _).1 h
  by_cases h106 : l = 106
  · subst h106
    have h3 := hj rfl
    unfold fieldW at hw
    rw [if_pos rfl] at hw
    unfold rvalR
    rw [if_pos rfl, rest_j]
    rcases signU_ways w ((numO w).getD 0) with ⟨h4, h5, h6⟩ | ⟨_, h5⟩
    · exact signL_inj ⟨h4, h5⟩ h3 (h6.trans hw.symm)
    · obtain ⟨k, hk⟩ := Int.eq_ofNat_of_zero_le h3.1
      rw [hk] at hw h3
      exact absurd hw (h5 k (by omega))
  · unfold rvalR
    rw [if_neg h106]
    unfold fieldW at hw
    rw [if_neg h106] at hw
    have hr : restR l w = Lib.itoa z := by
      subst hw
      rcases hl with rfl | rfl | rfl | rfl | rfl | rfl | rfl | rfl <;> first | rfl | exact absurd rfl h106
    rw [hr, numO_itoa hz]
    rfl
theorem rval_back {l : Nat} {w : List UInt8} (h : fieldW l (rvalR l w) = w) : valO l w = some (rvalR l w) := by
  refine (valO_iff _ _ _).2 ⟨⟨rvalR_fits _ _, fun hj => ?_⟩, h⟩
  subst hj
  unfold fieldW at h
  rw [if_pos rfl] at h
  have e : rvalR 106 w = signU w ((numO w).getD 0) 4 := by unfold rvalR; rw [if_pos rfl, rest_j]
  rw [e] at h ⊢
  rcases signU_ways w ((numO w).getD 0) with ⟨h4, h5, _⟩ | ⟨h4, h5⟩
  · exact ⟨h4, h5⟩
  · rw [h4] at h ⊢
    by_cases hr : 0 ≤ (numO w).getD 0 ∧ (numO w).getD 0 ≤ 3
    · exact hr
    · have hq : signL ((numO w).getD 0) = [63] := by
        unfold signL
        rw [if_neg (by omega), if_neg (by omega), if_neg (by omega), if_neg (by omega)]
      rw [hq] at h
      subst h
      exact absurd (show (0 : Int) ≤ (numO [63]).getD 0 ∧ (numO [63]).getD 0 ≤ 3 by
        have hn : numO [63] = none := num_bad (s := [63]) (b := 63) (by decide) (by decide)
        rw [hn]; decide) hr
theorem letters {op : Int} {l : Nat} (h : l ∈ shapeL op) : l = 97 ∨ l = 98 ∨ l = 99 ∨ l = 116 ∨ l = 110 ∨ l = 107 ∨ l = 115 ∨ l = 106 := by
  by_cases h0 : 0 ≤ op ∧ op < 16
  · obtain ⟨k, hk⟩ := Int.eq_ofNat_of_zero_le h0.1
    rw [hk] at h h0
    have hall : ∀ k : Nat, k < 16 → ∀ l ∈ shapeL (k : Int), l = 97 ∨ l = 98 ∨ l = 99 ∨ l = 116 ∨ l = 110 ∨ l = 107 ∨ l = 115 ∨ l = 106 := by decide +kernel
    exact hall k (by omega) l h
  · rw [shapeL_none op (by omega)] at h; cases h
theorem insOf_known {row : List UInt8} {x : Ins} (h : insOf row = some x) : (x.Good ∧ x.Ok) ∧ lineL x = row := by
  unfold insOf at h
  split at h
  · rename_i h2
    injection h with h
    rw [← h]
    exact h2.choose_spec
  · cases h
theorem rcode_end {row w0 : List UInt8} {ws : List (List UInt8)} (hw : splitC 32 row = w0 :: ws) (ho : 0 ≤ opOf w0 ∧ opOf w0 < 16) (zs : List Int) (h1 : zs.length = (shapeL (opOf w0)).length) (h2 : ws.length = (shapeL (opOf w0)).length)
    (hv : ∀ (i : Nat) (ha : i < (shapeL (opOf w0)).length) (hb : i < ws.length) (hc : i < zs.length), rvalR (shapeL (opOf w0))[i] ws[i] = zs[i]) :
    insOf row = if lineL (setAll (opOf w0) (shapeL (opOf w0)) zs) = row then some (setAll (opOf w0) (shapeL (opOf w0)) zs) else none := by
  obtain ⟨e1, e2, e3⟩ := setAll_full (opOf w0) ho zs h1
  have hget : ∀ (i : Nat) (ha : i < (shapeL (opOf w0)).length), (setAll (opOf w0) (shapeL (opOf w0)) zs).get (offL (shapeL (opOf w0))[i]) = zs[i]'(by omega) := fun i ha => by
    have h3 := congrArg (fun l : List Int => l[i]?) e3
    simp only [List.getElem?_map, List.getElem?_eq_getElem ha, List.getElem?_eq_getElem (show i < zs.length by omega), Option.map_some, Option.some.injEq] at h3
    exact h3
  by_cases hl : lineL (setAll (opOf w0) (shapeL (opOf w0)) zs) = row
  · rw [if_pos hl]
    refine line_some hw ho zs h1 h2 fun i ha hb hc => ?_
    have h3 := line_words (setAll (opOf w0) (shapeL (opOf w0)) zs)
    rw [hl, hw, e1] at h3
    simp only [List.cons.injEq] at h3
    have h4 : fieldW (shapeL (opOf w0))[i] zs[i] = ws[i] := by
      have h5 := congrArg (fun l : List (List UInt8) => l[i]?) h3.2
      simp only [List.getElem?_map, List.getElem?_eq_getElem ha, List.getElem?_eq_getElem hb, Option.map_some, Option.some.injEq] at h5
      rw [h5]
      show _ = fieldW _ _
      rw [hget i ha]
    have h6 := hv i ha hb hc
    rw [← h6] at h4 ⊢
    exact rval_back h4
  · rw [if_neg hl]
    cases hi : insOf row with
    | none => rfl
    | some x =>
      exfalso
      have hall : ∀ (i : Nat) (ha : i < (shapeL (opOf w0)).length) (hb : i < ws.length) (hc : i < zs.length), valO (shapeL (opOf w0))[i] ws[i] = some zs[i] := fun i ha hb hc => by
        cases hq : valO (shapeL (opOf w0))[i] ws[i] with
        | none =>
          rw [line_none hw (.inr (.inr ⟨i, hb, ha, hq⟩))] at hi
          cases hi
        | some z =>
          rw [← hv i ha hb hc, rvalR_val (letters (List.getElem_mem ha)) hq]
      have h3 := line_some hw ho zs h1 h2 hall
      exact hl ((insOf_known h3).2)
end Go.Proofs.YtkeckjgihjpfbaaDoor

/- Layer 7: the document's words. -/
namespace Go.Proofs.YtkeckjgihjpfbaaDoor
set_option maxRecDepth 100000
open Go.RowKit
attribute [local go_sem ↓] Go.wp_at_zero Go.wp_at_succ

theorem splitC_snoc (c b : UInt8) : ∀ p : List UInt8, splitC c (p ++ [b]) = if b = c then splitC c p ++ [[]] else (splitC c p).dropLast ++ [(splitC c p).getLastD [] ++ [b]]
  | [] => by
    rw [List.nil_append, splitC_cons]
    split
    · rfl
    · rfl
  | x :: p => by
    rw [List.cons_append, splitC_cons, splitC_cons, splitC_snoc c b p]
    have hne := splitC_ne c p
    cases hs : splitC c p with
    | nil => exact absurd hs hne
    | cons w ws =>
      by_cases hx : x = c
      · by_cases hb : b = c
        · rw [if_pos hx, if_pos hx, if_pos hb, if_pos hb]; rfl
        · rw [if_pos hx, if_pos hx, if_neg hb, if_neg hb]; rfl
      · by_cases hb : b = c
        · rw [if_neg hx, if_neg hx, if_pos hb, if_pos hb]; rfl
        · rw [if_neg hx, if_neg hx, if_neg hb, if_neg hb]
          cases ws with
          | nil => rfl
          | cons v vs => rfl
theorem elemS : ElemT Tryd.prog 100 9 1 16 :=
  ⟨Tryd.underlying100, by kernel_rfl, by
    obtain ⟨i, hi, hz, h1, _⟩ := info_parts (show (Tryd.prog.info? 9).map (fun i => (i.zero, i.size, i.bytes)) = some (some (.string { data := #[] }), 1, 16) by kernel_rfl)
    exact ⟨i, _, hi, hz, rfl⟩, by decide⟩
end Go.Proofs.YtkeckjgihjpfbaaDoor

/- Layer 7: the document's words, walked. -/
namespace Go.Proofs.YtkeckjgihjpfbaaDoor
set_option maxRecDepth 100000
open Go.RowKit
attribute [local go_sem ↓] Go.wp_at_zero Go.wp_at_succ

theorem split_next {p : List UInt8} {u : List (List UInt8)} {y : List UInt8} (h : splitC 32 p = u ++ [y]) (b : UInt8) : splitC 32 (p ++ [b]) = if b = 32 then (u ++ [y]) ++ [[]] else u ++ [y ++ [b]] := by
  rw [splitC_snoc, h]
  by_cases hb : b = 32
  · rw [if_pos hb, if_pos hb]
  · rw [if_neg hb, if_neg hb, List.dropLast_concat, List.getLastD_concat]
theorem txs_snoc (u : List (List UInt8)) (y : List UInt8) : txs (u ++ [y]) = txs u ++ [.string (tx y)] := by unfold txs; rw [List.map_append]; rfl
theorem txs_len (u : List (List UInt8)) : (txs u).length = u.length := List.length_map ..
/-- The words so far, the last of them yet open. -/
structure RW (w wr : World) (g cap : Nat) (u : List (List UInt8)) (y : List UInt8) : Prop where
  below : Below w.heap.size w wr
  own : wr.ownsRow w.heap.size 9 1 (.slice (some ⟨g, 0, none⟩) (u.length + 1) cap) (u.length + 1) (txs u ++ [.string (tx y)])
theorem RW.cells {w wr : World} {g cap : Nat} {u : List (List UInt8)} {y : List UInt8} (h : RW w wr g cap u y) : ∃ cur : Array Value, wr.heap[g]? = some (.cells cur 9 (0, 0)) ∧ w.heap.size ≤ g ∧ u.length + 1 ≤ cap ∧ cap ≤ maxLen ∧ cur.size = cap * 1 ∧ cur.toList.take (u.length + 1) = txs u ++ [.string (tx y)] := by
  rcases h.own.2 with ⟨h1, _⟩ | ⟨g', cap', cur, e, h1, h2, h3, h4, h5, h6⟩
  · cases h1
  · injection e with e1 _ e3
    injection e1 with e1
    injection e1 with e1 _ _
    subst e1 e3
    exact ⟨cur, h2, h1, h3, h4, h5, by rw [Nat.mul_one] at h6; exact h6⟩
theorem RW.cell {w wr : World} {g cap : Nat} {u : List (List UInt8)} {y : List UInt8} (h : RW w wr g cap u y) : wr.cell? ⟨g, u.length, none⟩ = some (.string (tx y)) ∧ wr.frozen? ⟨g, u.length, none⟩ = false := by
  obtain ⟨cur, h1, _, h3, _, h5, h6⟩ := h.cells
  refine ⟨?_, by simp [World.frozen?, h1]⟩
  rw [cell_of_row wr g u.length cur 9 (0, 0) h1]
  have h7 : cur.toList[u.length]? = (cur.toList.take (u.length + 1))[u.length]? := by rw [List.getElem?_take_of_lt (by omega)]
  rw [h6, List.getElem?_append_right (by rw [txs_len]; omega), txs_len, Nat.sub_self] at h7
  rw [← Array.getElem?_toList, h7]
  rfl
theorem RW.set {w wr : World} {g cap : Nat} {u : List (List UInt8)} {y : List UInt8} (h : RW w wr g cap u y) (z : List UInt8) : RW w (wr.setCell ⟨g, u.length, none⟩ (.string (tx z))) g cap u z := by
  obtain ⟨cur, h1, h2, h3, h4, h5, h6⟩ := h.cells
  have hlt : u.length < cur.size := by omega
  refine ⟨h.below.setCell (p := ⟨g, u.length, none⟩) h2 _, by simp [txs], .inr ⟨g, cap, _, rfl, h2, heap_at h1 u.length _, h3, h4, by simpa using h5, ?_⟩⟩
  rw [Nat.mul_one, Array.setIfInBounds_def, dif_pos hlt, Array.toList_set, List.take_set, h6]
  rw [List.set_append_right _ _ (by rw [txs_len]; exact Nat.le_refl _), txs_len, Nat.sub_self]
  rfl
theorem RW.pushed {w wr w3 : World} {g cap : Nat} {u : List (List UInt8)} {y : List UInt8} {v : Value} {o : Obj} (h : RW w wr g cap u y) (hown : w3.ownsRow w.heap.size 9 1 v (u.length + 1 + 1) ((txs u ++ [.string (tx y)]) ++ [.string { data := #[] }]))
    (hg : (wr.alloc o).grownBy w3 (some g)) : ∃ g' cap', v = .slice (some ⟨g', 0, none⟩) (u.length + 1 + 1) cap' ∧ RW w w3 g' cap' (u ++ [y]) [] := by
  obtain ⟨cur, h1, h2, h3, h4, h5, h6⟩ := h.cells
  rcases hown.2 with ⟨_, h0⟩ | ⟨g', cap', cur', rfl, h7⟩
  · omega
  · refine ⟨g', cap', rfl, ?_, ?_⟩
    · exact (h.below.alloc h.below.size o).grown hg (by have := h.below.size; rw [World.size_alloc]; omega) (fun k e => by injection e with e; omega)
    · rw [txs_snoc, List.length_append]
      exact hown
theorem RW.start (w : World) : RW w (w.alloc (.cells #[.string { data := #[] }] 9)) w.heap.size 1 [] [] :=
  ⟨(Below.refl _ w).alloc (Nat.le_refl _) _, rfl, .inr ⟨w.heap.size, 1, _, rfl, Nat.le_refl _, heap_alloc_new w _, Nat.le_refl _, by decide, rfl, rfl⟩⟩
theorem rdv_empty (w : World) : Rdv (w.alloc (.cells #[.string { data := #[] }] 9)) (some ⟨w.heap.size, 0, none⟩) 1 1 [.string { data := #[] }] := rdv_words w [[]] (by decide)
theorem extract_one (s : List UInt8) (k : Nat) (hk : k < s.length) : (tx s).extract k (k + 1) = tx [s[k]] := by
  rw [← tx_of ((tx s).extract k (k + 1))]
  congr 1
  rw [ByteArray.data_extract, Array.toList_extract, tx_data, List.extract_eq_take_drop]
  rw [show k + 1 - k = 1 by omega]
  rw [List.drop_eq_getElem_cons hk]
  rfl
theorem words_len {p : List UInt8} {u : List (List UInt8)} {y : List UInt8} (h : splitC 32 p = u ++ [y]) : u.length ≤ p.length ∧ y.length ≤ p.length := by
  have h1 := splitC_len 32 p
  rw [h] at h1
  have h2 := h1.1
  rw [List.length_append] at h2
  exact ⟨by simp at h2; omega, h1.2 y (by simp)⟩
end Go.Proofs.YtkeckjgihjpfbaaDoor

/- Layer 7: the document's words, walked. -/
namespace Go.Proofs.YtkeckjgihjpfbaaDoor
set_option maxRecDepth 100000
open Go.RowKit
attribute [local go_sem ↓] Go.wp_at_zero Go.wp_at_succ

theorem RW.drew {w wr : World} {g cap : Nat} {u : List (List UInt8)} {y : List UInt8} (h : RW w wr g cap u y) : RW w wr.drew g cap u y := ⟨h.below.drew, h.own.drew⟩
set_option maxHeartbeats 4000000 in
theorem refwords_any (s : List UInt8) (hs : s.length ≤ 100000) (w : World) : Calls Tryd.prog 88 #[.string (tx s)] w fun e w' => ∃ g cap, e = .returned (.slice (some ⟨g, 0, none⟩) (splitC 32 s).length cap) ∧ w'.ownsRow w.heap.size 9 1 (.slice (some ⟨g, 0, none⟩) (splitC 32 s).length cap) (splitC 32 s).length (txs (splitC 32 s)) ∧ Below w.heap.size w w' := by
  have hsz := tx_size s
  have HIX := Lib.hid (idx_tx s)
  have HEX := Lib.hid (extract_one s)
  obtain ⟨N, hN⟩ : ∃ N, N = s.length := ⟨_, rfl⟩
  obtain ⟨S, hS⟩ : ∃ S, S = tx s := ⟨_, rfl⟩
  rw [← hS] at hsz HIX HEX ⊢
  rw [← hN] at hsz hs
  have HNN := Lib.hid hN
  have HTK := Lib.hid (show ∀ k (h : k < s.length), s.take (k + 1) = s.take k ++ [s[k]] from fun k h => List.take_succ_eq_append_getElem h)
  clear hN hS
  have HST := Lib.hid (RW.start w)
  go_enter Tryd.func88, Tryd.ntmps88
  go_wp2_with fail
  go_loopw [3, 4] (fun v i wr => ∃ (k : Nat) (u : List (List UInt8)) (y : List UInt8) (g cap : Nat), i = .int .i64 (k : Int) ∧ v = .slice (some ⟨g, 0, none⟩) (u.length + 1) cap ∧ k ≤ N ∧ splitC 32 (s.take k) = u ++ [y] ∧ RW w wr g cap u y) (fun _ i _ => N - (intOf i).toNat)
  case atStart => exact ⟨0, [], [], _, _, rfl, rfl, Nat.zero_le _, rfl, HST.out⟩
  case round =>
    obtain ⟨k, u, y, g, cap, rfl, rfl, hk, hsp, hrw⟩ := hrel
    have HRW := Lib.hid hrw
    have HSP := Lib.hid hsp
    have hl := words_len hsp
    rw [List.length_take] at hl
    have hul : u.length ≤ 100000 := by omega
    have hyl : (tx y).size ≤ 100000 := by rw [tx_size]; omega
    clear hrw hsp hl
    by_cases hlt : k < N
    · have hkl : k < s.length := by rw [← HNN.out]; exact hlt
      have hix := HIX.out k hkl
      have hex := HEX.out k hkl
      have htk := HTK.out k hkl
      obtain ⟨b, hb⟩ : ∃ b, b = s[k] := ⟨_, rfl⟩
      rw [← hb] at hix hex htk
      have hix := hix wr
      have hsn : splitC 32 (s.take (k + 1)) = if b = 32 then (u ++ [y]) ++ [[]] else u ++ [y ++ [b]] := by rw [htk]; exact split_next HSP.out b
      clear hb htk
      by_cases h32 : b = 32
      · have d3 : ((b.toNat : Int) == 32) = true := by rw [h32]; rfl
        have HSN := Lib.hid (hsn.trans (if_pos h32))
        clear h32 hex hsn
        go_wp2_with (at_builtin; refine wpList_append_rowv elemS rfl (.tmp 16) (.tmp 17) rfl w.heap.size (.slice (some ⟨g, 0, none⟩) (u.length + 1) cap) (u.length + 1) _ rfl (HRW.out.own.alloc _) (some ⟨wr.heap.size, 0, none⟩) 1 1 [.string { data := #[] }] rfl (rdv_empty wr) (by intro z hz; rw [List.mem_singleton.1 hz]; rfl) (by intro h; cases h) (by unfold maxLen; omega) (by omega) (by have := HRW.out.below.size; rw [World.size_alloc]; omega) ?_; intro v6 w6 hown6 hg6 hb6; obtain ⟨g6, cap6, rfl, hrw6⟩ := RW.pushed HRW.out hown6 hg6; have HRW6 := Lib.hid hrw6; clear hown6 hg6 hb6 hrw6)
        go_roundw
        case rel => exact ⟨k + 1, u ++ [y], [], g6, cap6, rfl, by rw [List.length_append]; rfl, by omega, HSN.out, HRW6.out⟩
        case measure => simp [intOf]; omega
      · have d3 : ((b.toNat : Int) == 32) = false := by
          rw [beq_eq_false_iff_ne]
          intro h
          exact h32 (UInt8.toNat_inj.1 (by have e : (32 : UInt8).toNat = 32 := rfl; omega))
        have HSN := Lib.hid (hsn.trans (if_neg h32))
        have hcat : tx y ++ tx [b] = tx (y ++ [b]) := tx_append _ _
        obtain ⟨c0, f0⟩ := HRW.out.cell
        have HSET := Lib.hid ((RW.drew HRW.out).set (y ++ [b]))
        obtain ⟨ty, hty⟩ : ∃ t, t = tx y := ⟨_, rfl⟩
        obtain ⟨tb, htb⟩ : ∃ t, t = tx [b] := ⟨_, rfl⟩
        obtain ⟨tz, htz⟩ : ∃ t, t = tx (y ++ [b]) := ⟨_, rfl⟩
        rw [← hty] at hyl c0 hcat
        rw [← htb] at hex hcat
        rw [← htz] at hcat HSET
        have hbs : tb.size = 1 := by rw [htb, tx_size]; rfl
        clear h32 hsn hty htb htz
        go_wp2_with fail
        have hw1 : IntKind.i64.wrap ((u.length : Nat) : Int) = ((u.length : Nat) : Int) := IntWalk.i64_in _ (by omega)
        have hw2 : IntKind.i64.wrap ((k : Nat) + 1 : Int) = ((k : Nat) + 1 : Int) := IntWalk.i64_in _ (by omega)
        have hul1 : ((u.length : Nat) : Int) < ((u.length : Nat) : Int) + 1 := by omega
        have hty1 : ¬ 9223372036854775807 < ty.size + 1 := by omega
        have hk0 : (0 : Int) ≤ (k : Int) + 1 := by omega
        have hk1 : (k : Int) + 1 ≤ (N : Int) := by omega
        have hk2 : (k : Int) ≤ (k : Int) + 1 := by omega
        have c1 : wr.drew.cell? ⟨g, u.length, none⟩ = some (.string ty) := c0
        have f1 : wr.drew.frozen? ⟨g, u.length, none⟩ = false := f0
        go_region_law (fail)
        all_goals
          go_wp2_with fail
          go_roundw
          case rel => exact ⟨k + 1, u, y ++ [b], g, cap, rfl, rfl, by omega, HSN.out, HSET.out⟩
          case measure => simp [intOf]; omega
    · have hkN : k = N := by omega
      have HE := Lib.hid (show splitC 32 s = u ++ [y] by
        have h := HSP.out
        rw [List.take_of_length_le (by rw [← HNN.out]; omega)] at h
        exact h)
      subst hkN
      go_wp2_with fail
      go_ret
      exact ⟨g, cap, by rw [HE.out, List.length_append]; rfl, by rw [HE.out, List.length_append, txs_snoc]; exact HRW.out.own, HRW.out.below⟩
end Go.Proofs.YtkeckjgihjpfbaaDoor

/- Layer 7: the document's code of a line, walked. -/
namespace Go.Proofs.YtkeckjgihjpfbaaDoor
set_option maxRecDepth 100000
open Go.RowKit
attribute [local go_sem ↓] Go.wp_at_zero Go.wp_at_succ

/-- The instruction that is read, beside its line's words. -/
structure CI (w : World) (g gl : Nat) (L : List (List UInt8)) (x : Ins) (wr : World) : Prop where
  below : Below w.heap.size w wr
  out : wr.heap[w.heap.size]? = some (.cells Ins.zero.vals.toArray 43 (0, 0))
  cur : wr.heap[g]? = some (.cells x.vals.toArray 43 (0, 0))
  lo : w.heap.size < gl
  hi : gl < g
  words : ∀ (j : Nat) (hj : j < L.length), wr.cell? ⟨gl, j, none⟩ = some (.string (tx L[j]))
theorem CI.lt {w wr : World} {g gl : Nat} {L : List (List UInt8)} {x : Ins} (h : CI w g gl L x wr) : g < wr.heap.size := (Array.getElem?_eq_some_iff.1 h.cur).1
theorem CI.later {w wr w2 : World} {g gl : Nat} {L : List (List UInt8)} {x : Ins} (h : CI w g gl L x wr) (hb : Below wr.heap.size wr w2) : CI w g gl L x w2 :=
  ⟨h.below.trans (hb.mono h.below.size), box_later h.out hb, box_later h.cur hb, h.lo, h.hi, fun j hj => (hb.cell (p := ⟨gl, j, none⟩) (by have := h.hi; have := h.lt; show gl < _; omega)).trans (h.words j hj)⟩
theorem CI.stored {w wr : World} {g gl : Nat} {L : List (List UInt8)} {x : Ins} (h : CI w g gl L x wr) (o : Nat) (z : Int) (y : Ins) (hy : x.vals.toArray.setIfInBounds o (.int .i64 z) = y.vals.toArray) : CI w g gl L y (wr.setCell ⟨g, o, none⟩ (.int .i64 z)) :=
  ⟨h.below.setCell (p := ⟨g, o, none⟩) (by have := h.lo; have := h.hi; show w.heap.size ≤ g; omega) _, (Deep.blk_setCell_other _ _ _ _ (fun e => by have e2 : w.heap.size = g := e; have := h.lo; have := h.hi; omega)).trans h.out, by rw [heap_at h.cur, hy], h.lo, h.hi, fun j hj => (World.cell?_of_block (Deep.blk_setCell_other _ _ _ _ (fun e => by have e2 : gl = g := e; have := h.hi; omega))).trans (h.words j hj)⟩
theorem CI.set {w wr : World} {g gl : Nat} {L : List (List UInt8)} {x : Ins} (h : CI w g gl L x wr) (o : Nat) (ho : 1 ≤ o ∧ o ≤ 5) (z : Int) : CI w g gl L (x.set o z) (wr.setCell ⟨g, o, none⟩ (.int .i64 z)) := h.stored o z _ (set_at x o ho z)
theorem CI.setOp {w wr : World} {g gl : Nat} {L : List (List UInt8)} {x : Ins} (h : CI w g gl L x wr) (z : Int) : CI w g gl L { x with op := z } (wr.setCell ⟨g, 0, none⟩ (.int .i64 z)) := h.stored 0 z _ rfl
/-- The same at the end: the words are no longer wanted. -/
structure CJ (w : World) (g : Nat) (y x : Ins) (wr : World) : Prop where
  below : Below w.heap.size w wr
  out : wr.heap[w.heap.size]? = some (.cells y.vals.toArray 43 (0, 0))
  cur : wr.heap[g]? = some (.cells x.vals.toArray 43 (0, 0))
  lo : w.heap.size < g
theorem CJ.later {w wr w2 : World} {g : Nat} {y x : Ins} (h : CJ w g y x wr) (hb : Below wr.heap.size wr w2) : CJ w g y x w2 :=
  ⟨h.below.trans (hb.mono h.below.size), box_later h.out hb, box_later h.cur hb, h.lo⟩
theorem CJ.set {w wr : World} {g : Nat} {y x : Ins} (h : CJ w g y x wr) : CJ w g x x (set6 wr w.heap.size x) :=
  ⟨set6_below h.below _ _ (Nat.le_refl _), set6_at h.out x, by
    have := h.lo
    unfold set6
    have e : ∀ (W : World) (o : Nat) (v : Value), (W.setCell ⟨w.heap.size, o, none⟩ v).heap[g]? = W.heap[g]? := fun W o v => Deep.blk_setCell_other _ _ _ _ (fun e => by have e2 : g = w.heap.size := e; omega)
    rw [e, e, e, e, e, e]; exact h.cur, h.lo⟩
theorem CJ.drew {w wr : World} {g : Nat} {y x : Ins} (h : CJ w g y x wr) : CJ w g y x wr.drew := ⟨h.below.drew, h.out, h.cur, h.lo⟩
theorem CI.toJ {w wr : World} {g gl : Nat} {L : List (List UInt8)} {x : Ins} (h : CI w g gl L x wr) : CJ w g Ins.zero x wr := ⟨h.below, h.out, h.cur, by have := h.lo; have := h.hi; omega⟩
theorem CJ.cells {w wr : World} {g : Nat} {y x : Ins} (h : CJ w g y x wr) : (wr.cell? ⟨g, 0, none⟩ = some (.int .i64 x.op) ∧ wr.cell? ⟨g, 1, none⟩ = some (.int .i64 x.a) ∧ wr.cell? ⟨g, 2, none⟩ = some (.int .i64 x.b) ∧ wr.cell? ⟨g, 3, none⟩ = some (.int .i64 x.c) ∧ wr.cell? ⟨g, 4, none⟩ = some (.int .i64 x.t) ∧ wr.cell? ⟨g, 5, none⟩ = some (.int .i64 x.n)) ∧
    (wr.cell? ⟨w.heap.size, 0, none⟩ = some (.int .i64 y.op) ∧ wr.cell? ⟨w.heap.size, 1, none⟩ = some (.int .i64 y.a) ∧ wr.cell? ⟨w.heap.size, 2, none⟩ = some (.int .i64 y.b) ∧ wr.cell? ⟨w.heap.size, 3, none⟩ = some (.int .i64 y.c) ∧ wr.cell? ⟨w.heap.size, 4, none⟩ = some (.int .i64 y.t) ∧ wr.cell? ⟨w.heap.size, 5, none⟩ = some (.int .i64 y.n)) ∧
    ∀ o, wr.frozen? ⟨w.heap.size, o, none⟩ = false :=
  ⟨⟨cell_of_row wr _ 0 _ 43 (0, 0) h.cur, cell_of_row wr _ 1 _ 43 (0, 0) h.cur, cell_of_row wr _ 2 _ 43 (0, 0) h.cur, cell_of_row wr _ 3 _ 43 (0, 0) h.cur, cell_of_row wr _ 4 _ 43 (0, 0) h.cur, cell_of_row wr _ 5 _ 43 (0, 0) h.cur⟩,
    ⟨cell_of_row wr _ 0 _ 43 (0, 0) h.out, cell_of_row wr _ 1 _ 43 (0, 0) h.out, cell_of_row wr _ 2 _ 43 (0, 0) h.out, cell_of_row wr _ 3 _ 43 (0, 0) h.out, cell_of_row wr _ 4 _ 43 (0, 0) h.out, cell_of_row wr _ 5 _ 43 (0, 0) h.out⟩, fun o => by simp [World.frozen?, h.out]⟩
theorem results61 (w : World) (g : Nat) (x : Ins) (v : Value) (h : w.heap[g]? = some (.cells x.vals.toArray 43 (0, 0))) (tmps : Array Value) (h2 : tmps.getD 2 undef = .pointer (some ⟨g, 0, none⟩)) (h3 : tmps.getD 3 undef = v) :
    (results Tryd.f61 tmps).run Tryd.prog w = .ok (.tuple #[x.val, v]) w := by
  have h2' : tmps[2]?.getD undef = .pointer (some ⟨g, 0, none⟩) := by simpa using h2
  have h3' : tmps[3]?.getD undef = v := by simpa using h3
  have c0 : w.cell? ⟨g, 0, none⟩ = some (.int .i64 x.op) := cell_of_row w g 0 _ 43 (0, 0) h
  have c1 : w.cell? ⟨g, 1, none⟩ = some (.int .i64 x.a) := cell_of_row w g 1 _ 43 (0, 0) h
  have c2 : w.cell? ⟨g, 2, none⟩ = some (.int .i64 x.b) := cell_of_row w g 2 _ 43 (0, 0) h
  have c3 : w.cell? ⟨g, 3, none⟩ = some (.int .i64 x.c) := cell_of_row w g 3 _ 43 (0, 0) h
  have c4 : w.cell? ⟨g, 4, none⟩ = some (.int .i64 x.t) := cell_of_row w g 4 _ 43 (0, 0) h
  have c5 : w.cell? ⟨g, 5, none⟩ = some (.int .i64 x.n) := cell_of_row w g 5 _ 43 (0, 0) h
  have e : Tryd.f61.results = #[.cell 2 43, .tmp 3] := Tryd.results61
  have hl : (loadVar 43 ⟨g, 0, none⟩).run Tryd.prog w = .ok x.val w := by unfold Ins.val; simp [go_sem, c0, c1, c2, c3, c4, c5]
  simp only [results, e]
  simp [asAddr, h2', hl, h3']
/-- The words' cells. -/
theorem words_at {w wr : World} {B g cap : Nat} {L : List (List UInt8)} (h : wr.ownsRow B 9 1 (.slice (some ⟨g, 0, none⟩) L.length cap) L.length (txs L)) (_ : B = w.heap.size) : ∀ (j : Nat) (hj : j < L.length), wr.cell? ⟨g, j, none⟩ = some (.string (tx L[j])) := fun j hj => by
  have h1 := h.cells (g := g) rfl j (.string (tx L[j])) (by simp [txs, hj])
  rw [addr_plus, Nat.zero_add] at h1
  exact h1
def startR (w : World) : World := w.alloc (.cells #[.int .i64 (-1), .int .i64 0, .int .i64 0, .int .i64 0, .int .i64 0, .int .i64 0] 43)
end Go.Proofs.YtkeckjgihjpfbaaDoor
