/- ProgCuts answers true of whatever programs and cuts: the walk. -/
import Derived.Test.YtkeckjgihjpfbaaDoorBackP
import Derived.Test.YtkeckjgihjpfbaaDoorEncodesLaw
import Derived.Deep.RegionHeld3
namespace Go.Proofs.YtkeckjgihjpfbaaDoor
set_option maxRecDepth 100000
open Go.RowKit
attribute [local go_sem ↓] Go.wp_at_zero Go.wp_at_succ

theorem enc_pos (f : Nat) (l : List Ins) : 0 < (encP f l).length := by
  unfold encP cntN
  simp only [List.length_append, List.length_cons]
  omega
theorem cut_mod (cut : Int) (N : Nat) (h : 0 < N) (hN : N ≤ 2000) : ∃ k : Nat, k < N ∧ wrap64 ((IntKind.u64.wrap cut).tmod (N : Int)) = (k : Int) := by
  have hw : IntKind.u64.wrap cut = cut % 18446744073709551616 := by rw [IntKind.wrap_u64]
  have h0 : 0 ≤ cut % 18446744073709551616 := Int.emod_nonneg _ (by decide)
  rw [hw, Int.tmod_eq_emod_of_nonneg h0]
  have h1 : 0 ≤ cut % 18446744073709551616 % (N : Int) := Int.emod_nonneg _ (by omega)
  have h2 : cut % 18446744073709551616 % (N : Int) < (N : Int) := Int.emod_lt_of_pos _ (by omega)
  obtain ⟨k, hk⟩ := Int.eq_ofNat_of_zero_le h1
  rw [hk] at h2 ⊢
  refine ⟨k, by omega, ?_⟩
  unfold wrap64
  omega
theorem cut_byte (cut : Int) : ∃ b : Nat, b < 256 ∧ IntKind.u8.wrap cut = (b : Int) := by
  rw [IntKind.wrap_u8]
  obtain ⟨k, hk⟩ := Int.eq_ofNat_of_zero_le (Int.emod_nonneg cut (show (256 : Int) ≠ 0 by decide))
  exact ⟨k, by omega, hk⟩
theorem rdv_take {w : World} {A : Option Addr} {n k : Nat} {xs : List Nat} (h : Rdv w A n 1 (valsB xs)) (hk : k ≤ n) : Rdv w A k 1 (valsB (xs.take k)) := by
  have hl := h.1
  rw [valsB_length] at hl
  refine ⟨by rw [valsB_length, List.length_take]; omega, fun h0 => ?_⟩
  obtain ⟨b, off, e, hc⟩ := h.2 (by omega)
  refine ⟨b, off, e, fun j u hj => hc j u ?_⟩
  rw [valsB_get, List.getElem?_take] at hj
  by_cases hjk : j < k
  · rw [if_pos hjk] at hj
    rw [valsB_get]; exact hj
  · rw [if_neg hjk] at hj; cases hj
theorem dec_none {xs : List Nat} {w w' : World} {e : Ending} (h : decOk xs = false) (hd : DecE xs w w' e) : e = .returned (.tuple #[.agg #[.int .i64 0, .slice none 0 0], .iface 36 (.int .i64 2)]) := by
  rcases hd with ⟨h2, _⟩ | ⟨_, h2⟩
  · rw [h] at h2; cases h2
  · exact h2
theorem cut_own {w : World} {B n c bq : Nat} {A : Option Addr} {xs : List Nat} (h : w.ownsRow B 5 1 (.slice A n c) n (valsB xs)) : (w.alloc (.cells #[.int .u8 (bq : Int)] 5)).ownsRow B 5 1 (.slice A n c) n (valsB xs) := h.alloc _
theorem cut_below {w w9 : World} (h : (w.alloc (.cells #[] 5)).grownBy w9 (Value.slice (some ⟨w.heap.size, 0, none⟩) 0 0).ownBlock) : Below w.heap.size w w9 :=
  ((Below.refl _ w).alloc (Nat.le_refl _) _).grown h (by rw [World.size_alloc]; omega) (fun q e => by have : w.heap.size = q := Option.some.inj e; omega)
set_option maxHeartbeats 16000000 in
theorem cuts_law (f g cut : Int) (A A' : Option Addr) (n n' c c' : Nat) (l m : List Ins) (w : World) (hT : Tab w) (h1 : Codes w A n l) (h2 : Codes w A' n' m) (hn : n ≤ 9223372036854775807) (hn' : n' ≤ 9223372036854775807) (hok : ∀ x ∈ l, Ins.Ok x) (hok' : ∀ x ∈ m, Ins.Ok x) (hcut : Fits cut) :
    Calls Tryd.prog 6 #[.agg #[.int .i64 f, .slice A n c], .agg #[.int .i64 g, .slice A' n' c'], .int .i64 cut] w fun e w' => e = .returned (.bool true) ∧ Below w.heap.size w w' := by
  obtain ⟨hx, hy⟩ := two_cells w f g A A' n n' c c'
  have hb := two_boxes w f g A A' n n' c c'
  have HAL := Lib.hid (alive_any _ (hT.ext hb))
  have HBX := Lib.hid hb
  have HX0 := Lib.hid hx
  have HY0 := Lib.hid hy
  have HT := Lib.hid hT
  have H1 := Lib.hid h1
  have H2 := Lib.hid h2
  have HFN := Lib.hid (fun x hx => (hok x hx).n)
  have HFM := Lib.hid (fun x hx => (hok' x hx).n)
  have HCUT := Lib.hid hcut
  clear hx hy hb hT h1 h2 hok hok' hcut
  go_enter Tryd.func6, Tryd.ntmps6
  go_wp2_with fail
  refine Calls.mono HAL.out ?_
  rintro e w1 ⟨rfl, hb1⟩
  have HB1 := Lib.hid (HBX.out.trans (hb1.mono HBX.out.size))
  have HX1 := Lib.hid (box_later HX0.out hb1)
  have HY1 := Lib.hid (box_later HY0.out hb1)
  have x0 : w1.cell? ⟨w.heap.size, 0, none⟩ = some (.int .i64 f) := cell_of_row w1 _ 0 _ 24 (0, 0) HX1.out
  have x1 : w1.cell? ⟨w.heap.size, 1, none⟩ = some (.slice A n c) := cell_of_row w1 _ 1 _ 24 (0, 0) HX1.out
  clear hb1
  have HLA := Lib.hid (large_any f A n c w1)
  by_cases hl : 100 < n
  · have d1 : decide ((100 : Int) < (n : Int)) = true := decide_eq_true (by omega)
    rw [d1] at HLA
    clear d1
    go_wp2_with fail
    refine Calls.mono HLA.out ?_
    rintro e w2 ⟨rfl, hb2⟩
    have HB2 := Lib.hid (HB1.out.trans (hb2.mono HB1.out.size))
    clear hb2
    go_wp2_with fail
    go_ret
    exact ⟨rfl, HB2.out⟩
  have d1 : decide ((100 : Int) < (n : Int)) = false := decide_eq_false (by omega)
  rw [d1] at HLA
  clear d1
  go_wp2_with fail
  refine Calls.mono HLA.out ?_
  rintro e w2 ⟨rfl, hb2⟩
  have HB2 := Lib.hid (HB1.out.trans (hb2.mono HB1.out.size))
  have HX2 := Lib.hid (box_later HX1.out hb2)
  have HY2 := Lib.hid (box_later HY1.out hb2)
  clear x0 x1 hb2
  have y0 : w2.cell? ⟨w.heap.size + 1, 0, none⟩ = some (.int .i64 g) := cell_of_row w2 _ 0 _ 24 (0, 0) HY2.out
  have y1 : w2.cell? ⟨w.heap.size + 1, 1, none⟩ = some (.slice A' n' c') := cell_of_row w2 _ 1 _ 24 (0, 0) HY2.out
  have HLB := Lib.hid (large_any g A' n' c' w2)
  by_cases hl' : 100 < n'
  · have d1 : decide ((100 : Int) < (n' : Int)) = true := decide_eq_true (by omega)
    rw [d1] at HLB
    clear d1
    go_wp2_with fail
    refine Calls.mono HLB.out ?_
    rintro e w3 ⟨rfl, hb3⟩
    have HB3 := Lib.hid (HB2.out.trans (hb3.mono HB2.out.size))
    clear hb3
    go_wp2_with fail
    go_ret
    exact ⟨rfl, HB3.out⟩
  have d1 : decide ((100 : Int) < (n' : Int)) = false := decide_eq_false (by omega)
  rw [d1] at HLB
  clear d1
  go_wp2_with fail
  refine Calls.mono HLB.out ?_
  rintro e w3 ⟨rfl, hb3⟩
  have HB3 := Lib.hid (HB2.out.trans (hb3.mono HB2.out.size))
  have HX3 := Lib.hid (box_later HX2.out hb3)
  have HY3 := Lib.hid (box_later HY2.out hb3)
  clear y0 y1 hb3
  have x0 : w3.cell? ⟨w.heap.size, 0, none⟩ = some (.int .i64 f) := cell_of_row w3 _ 0 _ 24 (0, 0) HX3.out
  have x1 : w3.cell? ⟨w.heap.size, 1, none⟩ = some (.slice A n c) := cell_of_row w3 _ 1 _ 24 (0, 0) HX3.out
  have HEN := Lib.hid (encode_any f A n c l w3 (HT.out.ext HB3.out) (H1.out.ext (stays_b HB3.out)) hn HFN.out)
  go_wp2_with fail
  refine Calls.mono HEN.out ?_
  rintro e w4 ⟨he4, hb4⟩
  have HB4 := Lib.hid (HB3.out.trans (hb4.mono HB3.out.size))
  have HX4 := Lib.hid (box_later HX3.out hb4)
  have HY4 := Lib.hid (box_later HY3.out hb4)
  clear x0 x1 hb4
  have y0 : w4.cell? ⟨w.heap.size + 1, 0, none⟩ = some (.int .i64 g) := cell_of_row w4 _ 0 _ 24 (0, 0) HY4.out
  have y1 : w4.cell? ⟨w.heap.size + 1, 1, none⟩ = some (.slice A' n' c') := cell_of_row w4 _ 1 _ 24 (0, 0) HY4.out
  have HEM := Lib.hid (encode_any g A' n' c' m w4 (HT.out.ext HB4.out) (H2.out.ext (stays_b HB4.out)) hn' HFM.out)
  rcases he4 with ⟨hck, Ab, cb, rfl, hrb, hnab⟩ | ⟨hck, b, rfl, _, hfa⟩
  · have HCK := Lib.hid hck
    have HRB := Lib.hid hrb
    have HNIL := Lib.hid hnab.nil
    have hpos := enc_pos f.toNat l
    have HCB := Lib.hid (show (encP f.toNat l).length ≤ cb by rcases hnab with ⟨_, h1, h2⟩ | ⟨_, _, _, _, h3, _⟩ <;> omega)
    clear hck hrb hnab
    go_wp2_with fail
    refine Calls.mono HEM.out ?_
    rintro e w5 ⟨he5, hb5⟩
    have HB5 := Lib.hid (HB4.out.trans (hb5.mono HB4.out.size))
    have HX5 := Lib.hid (box_later HX4.out hb5)
    have HY5 := Lib.hid (box_later HY4.out hb5)
    have HRB5 := Lib.hid (HRB.out.ext (stays_b hb5))
    clear y0 y1 hb5
    rcases he5 with ⟨hck2, Ac, cc, rfl, hrc, _⟩ | ⟨_, b2, rfl, _, _⟩
    · have hck1 := HCK.out
      obtain ⟨hh, _⟩ := chk_good hck1
      obtain ⟨hh2, _⟩ := chk_good hck2
      have hsm := good_small hck1 HFN.out
      have hsm2 := good_small hck2 HFM.out
      have hlL : (encP f.toNat l).length ≤ 2000 := encP_len hsm (by omega) (by omega)
      have hlM : (encP g.toNat m).length ≤ 2000 := encP_len hsm2 (by omega) (by omega)
      have HSL := Lib.hid (show ∀ b ∈ encP f.toNat l, b < 256 from encP_small hsm)
      have HSMM := Lib.hid (show ∀ b ∈ encP g.toNat m, b < 256 from encP_small hsm2)
      have HCUTN := Lib.hid (fun k hk => dec_cut hck1 HFN.out HSL.out k hk)
      have HMORE := Lib.hid (fun b => dec_more hck1 HFN.out b)
      have hinj := enc_inj hck1 HFN.out hck2 HFM.out
      have HRC5 := Lib.hid hrc
      obtain ⟨P, hP⟩ : ∃ P, P = sameP f g l m := ⟨_, rfl⟩
      rw [← hP] at hinj
      have HP := Lib.hid hP
      obtain ⟨L, hL⟩ : ∃ L, L = encP f.toNat l := ⟨_, rfl⟩
      obtain ⟨M, hM⟩ : ∃ M, M = encP g.toNat m := ⟨_, rfl⟩
      rw [← hL] at hlL HSL HCUTN HMORE hinj hpos HRB5 HNIL HCB ⊢
      rw [← hM] at hlM HSMM hinj HRC5 ⊢
      have HS9 := Lib.hid (fun (W : World) (hb : Below w5.heap.size w5 W) => ((same_any Ab Ac L.length cb M.length cc L M W (HRB5.out.ext (stays_b hb)) (HRC5.out.ext (stays_b hb)) HSL.out HSMM.out).mono fun e w' h => (⟨by rw [h.1, hinj], by rw [← h.2]; exact Below.refl _ _⟩ : e = .returned (.bool P) ∧ Below W.heap.size W w')))
      have HP9 := Lib.hid (fun (W : World) (hb : Below w5.heap.size w5 W) => (by have h := programs_any f g A A' n n' c c' l m W (H1.out.ext (stays_b (HB5.out.trans (hb.mono HB5.out.size)))) (H2.out.ext (stays_b (HB5.out.trans (hb.mono HB5.out.size)))) hn hn'; rw [← HP.out] at h; exact h : Calls Tryd.prog 15 #[.agg #[.int .i64 f, .slice A n c], .agg #[.int .i64 g, .slice A' n' c']] W fun e w' => e = .returned (.bool P) ∧ Below W.heap.size W w'))
      have HXX := Lib.hid (show ∀ w' : World, Below w5.heap.size w5 w' → w'.cell? ⟨w.heap.size, 0, none⟩ = some (.int .i64 f) ∧ w'.cell? ⟨w.heap.size, 1, none⟩ = some (.slice A n c) ∧ w'.cell? ⟨w.heap.size + 1, 0, none⟩ = some (.int .i64 g) ∧ w'.cell? ⟨w.heap.size + 1, 1, none⟩ = some (.slice A' n' c') ∧ Below w5.heap.size w5 w' from fun w' hb =>
        ⟨cell_of_row w' _ 0 _ 24 (0, 0) (box_later HX5.out hb), cell_of_row w' _ 1 _ 24 (0, 0) (box_later HX5.out hb), cell_of_row w' _ 0 _ 24 (0, 0) (box_later HY5.out hb), cell_of_row w' _ 1 _ 24 (0, 0) (box_later HY5.out hb), hb⟩)
      have hPP : (P != P) = false := by simp
      clear hck1 hck2 hh hh2 hsm hsm2 hinj hrc hP hL hM
      go_wp2_with fail
      go_region_held3 (fun w' => w'.cell? ⟨w.heap.size, 0, none⟩ = some (.int .i64 f) ∧ w'.cell? ⟨w.heap.size, 1, none⟩ = some (.slice A n c) ∧ w'.cell? ⟨w.heap.size + 1, 0, none⟩ = some (.int .i64 g) ∧ w'.cell? ⟨w.heap.size + 1, 1, none⟩ = some (.slice A' n' c') ∧ Below w5.heap.size w5 w')
        (first | exact HXX.out _ (Below.refl _ w5).drew | (go_split_ands; exact HXX.out _ (Below.trans (by assumption) (hbK.mono (Below.size (by assumption))))))
        (first | (go_at_call 20; go_split_ands; (with_reducible refine Calls.mono (HS9.out _ (by assumption)) ?_); rintro e w6 ⟨rfl, hbK⟩) | (go_at_call 15; go_split_ands; (with_reducible refine Calls.mono (HP9.out _ (by assumption)) ?_); rintro e w6 ⟨rfl, hbK⟩))
      all_goals
        rename_i hHeld
        have HHB := Lib.hid hHeld.2.2.2.2
        clear hHeld
        clear hbK
        rename World => w7
        obtain ⟨k, hkL, hkm⟩ := cut_mod cut L.length hpos hlL
        have hcb := HCB.out
        have HB7 := Lib.hid (HB5.out.trans (HHB.out.mono HB5.out.size))
        have HRB7 := Lib.hid (HRB5.out.ext (stays_b HHB.out))
        have hne : Ab ≠ none := fun e => by have := (HNIL.out e).2; omega
        have hd7 := decode_any Ab k cb (L.take k) w7 (HT.out.ext HB7.out) (rdv_take HRB7.out (by omega)) (fun e => absurd e hne) (by omega) (fun b hb => HSL.out b (List.mem_of_mem_take hb))
        have HD7 := Lib.hid hd7
        have HCN := Lib.hid (HCUTN.out k hkL)
        have HNE := Lib.hid hne
        obtain ⟨bq, hbq, hbw⟩ := cut_byte cut
        clear hd7 hne
        go_wp2_with fail
        refine Calls.mono HD7.out ?_
        rintro e w8 ⟨he8, hb8⟩
        obtain rfl := dec_none HCN.out he8
        have HB8 := Lib.hid (HB7.out.trans (hb8.mono HB7.out.size))
        have HRB8 := Lib.hid (HRB7.out.ext (stays_b (hb8.alloc hb8.size (.cells #[] 5))))
        have HOE := Lib.hid (own_empty w8 w8.heap.size 5 1 5 rfl (Nat.le_refl _))
        clear he8 hb8 hkm
        have HMO := Lib.hid (HMORE.out bq)
        have hnA : Ab = none → cb = 0 := fun e => absurd e HNE.out
        go_wp2_with (at_builtin; first | (refine wpList_append_rowv elemB rfl (.tmp 67) (.tmp 68) rfl w8.heap.size (.slice (some ⟨w8.heap.size, 0, none⟩) 0 0) 0 [] rfl HOE.out Ab L.length cb (valsB L) rfl HRB8.out (valsB_one _) hnA (by unfold maxLen; omega) (by omega) (by rw [World.size_alloc]; omega) ?_; intro v9 w9 hown9 hg9 hb9; obtain ⟨A9, c9, rfl, _, _, _⟩ := rdv_own hown9; rw [Nat.zero_add, List.nil_append] at hown9; have HO9 := Lib.hid (cut_own (bq := bq) hown9); have HB9 := Lib.hid (cut_below hg9); clear hown9 hg9 hb9) | (refine wpList_append_rowv elemB rfl (.tmp 69) (.tmp 72) rfl w8.heap.size (.slice A9 L.length c9) L.length (valsB L) rfl HO9.out (some ⟨w9.heap.size, 0, none⟩) 1 1 (valsB [bq]) rfl (rdv_b1 w9 bq) (valsB_one _) (fun h => by cases h) (by unfold maxLen; omega) (by omega) (by have := HB9.out.size; rw [World.size_alloc]; omega) ?_; intro v10 w10 hown10 hg10 hb10; have HO10 := Lib.hid hown10; have HB10 := Lib.hid (((HB9.out.alloc HB9.out.size (.cells #[.int .u8 (bq : Int)] 5))).grown hg10 (by have := HB9.out.size; rw [World.size_alloc]; omega) (fun q e => (own_cells HO9.out q e).1)); obtain ⟨A10, c10, rfl, _, _, _⟩ := rdv_own hown10; clear hown10 hg10 hb10))
        have HBB10 := Lib.hid (HB8.out.trans (HB10.out.mono HB8.out.size))
        have hr10 : Rdv w10 A10 (L.length + 1) 1 (valsB (L ++ [bq])) := by
          obtain ⟨_, _, e, hr, _, _⟩ := rdv_own HO10.out
          injection e with e1 _ e2
          subst e1 e2
          rw [valsB_append]
          exact hr
        have hn10 : A10 = none → c10 = 0 ∧ L.length + 1 = 0 := fun e => by
          obtain ⟨b, off, e2, _⟩ := hr10.2 (by omega)
          rw [e] at e2; cases e2
        have HD10 := Lib.hid (decode_any A10 (L.length + 1) c10 (L ++ [bq]) w10 (HT.out.ext HBB10.out) hr10 hn10 (by omega) (fun b hb => by
          rcases List.mem_append.1 hb with hb | hb
          · exact HSL.out b hb
          · rw [List.mem_singleton.1 hb]; exact hbq))
        clear hr10 hn10
        refine Calls.mono HD10.out ?_
        rintro e w11 ⟨he11, hb11⟩
        obtain rfl := dec_none HMO.out he11
        have HB11 := Lib.hid (HBB10.out.trans (hb11.mono HBB10.out.size))
        have HIS := Lib.hid (is_errno 2 (by decide) w11)
        clear he11 hb11
        go_wp2_with fail
        refine Calls.mono HIS.out ?_
        rintro e w12 ⟨rfl, rfl⟩
        go_wp2_with fail
        refine Calls.mono HIS.out ?_
        rintro e w12 ⟨rfl, rfl⟩
        go_wp2_with fail
        go_ret
        exact ⟨rfl, HB11.out⟩
    · obtain ⟨L, hL⟩ : ∃ L, L = encP f.toNat l := ⟨_, rfl⟩
      rw [← hL] at hpos HRB5 ⊢
      clear hL
      go_wp2_with fail
      go_ret
      exact ⟨rfl, HB5.out⟩
  · clear hck hfa
    go_wp2_with fail
    refine Calls.mono HEM.out ?_
    rintro e w5 ⟨he5, hb5⟩
    have HB5 := Lib.hid (HB4.out.trans (hb5.mono HB4.out.size))
    clear hb5
    rcases he5 with ⟨_, Ac, cc, rfl, _, _⟩ | ⟨_, b2, rfl, _, _⟩
    · go_wp2_with fail
      go_ret
      exact ⟨rfl, HB5.out⟩
    · go_wp2_with fail
      go_ret
      exact ⟨rfl, HB5.out⟩
end Go.Proofs.YtkeckjgihjpfbaaDoor
