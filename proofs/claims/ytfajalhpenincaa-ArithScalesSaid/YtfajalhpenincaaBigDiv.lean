/- The contract of the reference's Div: its loops. -/
import Derived.Test.YtfajalhpenincaaSumsWalk
import Derived.Test.YtfajalhpenincaaTotalsWalk
import Derived.Test.YtfajalhpenincaaBackWalk
namespace Go.Proofs.Ytfajalhpenincaa
open Go.RowKit

theorem div_step {D0 D1 d Q E R m S : Nat} (h0 : D0 = d + 10 * D1) (h1 : D1 = Q * E + R) (hR : d + 10 * R = m * E + S) : D0 = (m + 10 * Q) * E + S := by
  have e : (m + 10 * Q) * E = m * E + 10 * (Q * E) := by rw [Nat.add_mul, Nat.mul_assoc]
  rw [e, h0, h1]; omega
theorem count_lt {m E S R : Nat} (h : R = m * E + S) (hR : R < 10 * E) : m < 10 := by
  rcases Nat.lt_or_ge m 10 with h1 | h1
  · exact h1
  · have : 10 * E ≤ m * E := Nat.mul_le_mul_right E h1
    omega
theorem count_next {m E S R : Nat} (h : R = m * E + S) (hS : E ≤ S) : R = (m + 1) * E + (S - E) := by
  rw [show (m + 1) * E = m * E + E from Nat.succ_mul m E]; omega
theorem own_ext {w w' : World} {B : Nat} {v : Value} {xs : List Nat} (h : Own w B v xs) (hb : Below w.heap.size w w') : Own w' B v xs := by
  refine ⟨h.1, ?_⟩
  rcases h.2 with h0 | ⟨g, cap, cur, hv, hB, hg, hrest⟩
  · exact .inl h0
  · exact .inr ⟨g, cap, cur, hv, hB, (hb.block g (Array.getElem?_eq_some_iff.1 hg).1).trans hg, hrest⟩
theorem val_short {ds : List Nat} (h : Norm ds) {E : Nat} (hE : E < 10 ^ 200) (hv : val ds < 10 * E) : ds.length ≤ 201 :=
  norm_length h 201 (by
    have e : 10 ^ 201 = 10 * 10 ^ 200 := by rw [Nat.pow_succ, Nat.mul_comm]
    rw [e]; omega)

theorem run_figures (x : Bool) (A : Option Addr) (k c : Nat) (w : World) : (Instr.field 25 (.agg #[.bool x, .slice A k c]) 1).run Try.prog w = .ok (.slice A k c) w := by kernel_rfl

theorem results_two_rows {P : Program} {fn : Func} {p q : Tmp} {ty : TypeId} (h : fn.results = #[.cell p ty, .cell q ty]) (tmps : Array Value) (w : World) (g g' : Nat) (t : TypeId) (cs cs' : Array Value) (fr fr' : Nat × Nat) (d : TypeDesc)
    (hp : tmps.getD p undef = .pointer (some ⟨g, 0, none⟩)) (hg : w.heap[g]? = some (.cells cs t fr)) (hq : tmps.getD q undef = .pointer (some ⟨g', 0, none⟩)) (hg' : w.heap[g']? = some (.cells cs' t fr'))
    (hu : P.underlying ty = some d) (hd : (match d with | .struct _ | .array _ _ => true | _ => false) = true) (hi : (P.info? ty).map (·.size) = some cs.size) (hi' : (P.info? ty).map (·.size) = some cs'.size) :
    (results fn tmps).run P w = .ok (.tuple #[.agg cs, .agg cs']) w := by
  have hp' : tmps[p]?.getD undef = .pointer (some ⟨g, 0, none⟩) := by simpa using hp
  have hq' : tmps[q]?.getD undef = .pointer (some ⟨g', 0, none⟩) := by simpa using hq
  simp [results, h, hp', hq', asAddr, run_loadVar_row w g t ty cs fr d hg hu hd hi, run_loadVar_row w g' t ty cs' fr' d hg' hu hd hi']

theorem div_sign {a b : Int} (h : a.tdiv b ≠ 0) : (decide (a < 0) != decide (b < 0)) = decide (a.tdiv b < 0) := by
  have hb : b ≠ 0 := fun e => h (by rw [e, Int.tdiv_zero])
  have key : ∀ a b : Int, 0 ≤ a → 0 < b → 0 ≤ a.tdiv b := fun a b h1 h2 => Int.tdiv_nonneg h1 (by omega)
  by_cases h1 : a < 0 <;> by_cases h2 : b < 0
  · have e : a.tdiv b = (-a).tdiv (-b) := by rw [Int.neg_tdiv_neg]
    have := key (-a) (-b) (by omega) (by omega)
    rw [decide_eq_true h1, decide_eq_true h2, decide_eq_false (show ¬ a.tdiv b < 0 by omega)]; rfl
  · have e : a.tdiv b = -((-a).tdiv b) := by rw [Int.neg_tdiv]; omega
    have := key (-a) b (by omega) (by omega)
    rw [decide_eq_true h1, decide_eq_false h2, decide_eq_true (show a.tdiv b < 0 by omega)]; rfl
  · have e : a.tdiv b = -(a.tdiv (-b)) := by rw [Int.tdiv_neg]; omega
    have := key a (-b) (by omega) (by omega)
    rw [decide_eq_false h1, decide_eq_true h2, decide_eq_true (show a.tdiv b < 0 by omega)]; rfl
  · have := key a b (by omega) (by omega)
    rw [decide_eq_false h1, decide_eq_false h2, decide_eq_false (show ¬ a.tdiv b < 0 by omega)]; rfl
theorem mod_sign {a b : Int} (h : a.tmod b ≠ 0) : decide (a < 0) = decide (a.tmod b < 0) := decide_eq_decide.2 (rest_sign h).symm
theorem quot_val {D Q E R : Nat} (hE : 0 < E) (h : D = Q * E + R) (hR : R < E) : Q = D / E ∧ R = D % E := by
  subst h
  constructor
  · rw [Nat.mul_comm, Nat.mul_add_div hE, Nat.div_eq_of_lt hR, Nat.add_zero]
  · rw [Nat.mul_comm, Nat.mul_add_mod, Nat.mod_eq_of_lt hR]

set_option maxHeartbeats 2000000 in
theorem divB_any (s t : Bool) (A A2 : Option Addr) (n c n2 c2 : Nat) (ds es : List Nat) (a b : Int) (w : World) (ha : BigOf w s A n c ds a) (hb : BigOf w t A2 n2 c2 es b) (h0 : b ≠ 0) :
    Calls Try.prog 22 #[.agg #[.bool s, .slice A n c], .agg #[.bool t, .slice A2 n2 c2]] w fun e w' => ∃ v, e = .returned v ∧ ∃ x y, v = .tuple #[x, y] ∧ IsBig w' x (a.tdiv b) ∧ IsBig w' y (a.tmod b) ∧ Below w.heap.size w w' := by
  have hsh := ha.short
  have hsh2 := hb.short
  have HBW := Lib.hid ((aw_below w s A n c t A2 n2 c2).alloc (by simp; omega) (.cells #[.bool false, .slice none 0 0] 25))
  have HB0 := Lib.hid ((aw_0 w s A n c t A2 n2 c2).alloc (.cells #[.bool false, .slice none 0 0] 25))
  have HB1 := Lib.hid ((aw_1 w s A n c t A2 n2 c2).alloc (.cells #[.bool false, .slice none 0 0] 25))
  have HB2 := Lib.hid ((aw_2 w s A n c t A2 n2 c2).alloc (.cells #[.bool false, .slice none 0 0] 25))
  have hB3 : Bg (mw w s A n c t A2 n2 c2) (w.heap.size + 1 + 1 + 1) false (.slice none 0 0) := by
    have h := box_one (aw w s A n c t A2 n2 c2) false (.slice none 0 0)
    rw [aw_size] at h
    exact h
  have HB3 := Lib.hid hB3
  have hE : val es = b.natAbs := hb.value
  have hD : val ds = a.natAbs := ha.value
  have hvd := val_drop ds
  obtain ⟨E, hEe⟩ : ∃ E, E = val es := ⟨_, rfl⟩
  have hE0 : 0 < E := by omega
  have hEs : E < 10 ^ 200 := by
    rw [hEe]
    exact Nat.lt_of_lt_of_le (val_lt hb.dg.2.1) (Nat.pow_le_pow_right (by decide) (by rw [hb.dg.1]; exact hsh2))
  have hval0 : val (ds.drop n) = val [] * E + val [] := by rw [List.drop_eq_nil_of_le (by rw [ha.dg.1]; exact Nat.le_refl _)]; simp [val]
  have HA := Lib.hid ha
  have HB := Lib.hid hb
  have HVD := Lib.hid hvd
  have HE := Lib.hid hEe
  have HES := Lib.hid hEs
  have HV0 := Lib.hid hval0
  clear ha hb hB3 hE hD hvd hEe hEs hval0
  go_enter Try.func22, Try.ntmps22
  go_wp2_with fail
  change Code.wp _ _ _ _ (mw w s A n c t A2 n2 c2)
  go_loopw [6, 7, 8, 9] (fun vq vr i _ wr => ∃ (k : Nat) (qs : List Nat) (A3 : Option Addr) (n3 c3 : Nat) (rs : List Nat), i = .int .i64 ((k : Int) - 1) ∧ k ≤ n ∧ vr = .slice A3 n3 c3 ∧ Bg wr w.heap.size s (.slice A n c) ∧ Bg wr (w.heap.size + 1) t (.slice A2 n2 c2) ∧ Bg wr (w.heap.size + 1 + 1) false (.slice none 0 0) ∧ Bg wr (w.heap.size + 1 + 1 + 1) false (.slice none 0 0) ∧
      Own wr (w.heap.size + 1 + 1 + 1 + 1) vq qs ∧ Fig qs ∧ qs.length ≤ n - k ∧ Dg wr A3 n3 rs ∧ Norm rs ∧ n3 ≤ c3 ∧ (A3 = none → c3 = 0) ∧ val rs < E ∧ val (ds.drop k) = val qs * E + val rs ∧ Below w.heap.size w wr) (fun _ _ i _ _ => (intOf i + 1).toNat)
  case atStart => exact ⟨n, [], none, 0, 0, [], rfl, Nat.le_refl _, rfl, HB0.out, HB1.out, HB2.out, HB3.out, own_nil _ _, fig_nil, by simp, ⟨rfl, fig_nil, fun h => absurd h (by omega)⟩, by simp [Norm], Nat.le_refl _, fun _ => rfl, by simpa [val] using hE0, HV0.out, HBW.out⟩
  case round =>
    obtain ⟨k, qs, A3, n3, c3, rs, rfl, hk, rfl, h0, h1, h2, h3, hown, hfq, hlq, hdr, hnr, hle, hnil, hlt, hval, hbr⟩ := hrel
    have c01 := h0.cell1
    have c11 := h1.cell1
    have hsz := h3.lt
    have hl3 := val_short hnr HES.out (by omega)
    rw [hdr.1] at hl3
    have G0 := Lib.hid h0
    have G1 := Lib.hid h1
    have G2 := Lib.hid h2
    have G3 := Lib.hid h3
    have GO := Lib.hid hown
    have GF := Lib.hid hfq
    have GL := Lib.hid hlq
    have GD := Lib.hid hdr
    have GN := Lib.hid hnr
    have GV := Lib.hid hval
    have GR := Lib.hid hbr
    have GT := Lib.hid hlt
    clear h0 h1 h2 h3 hown hfq hlq hdr hnr hval hbr hlt HV0 HB0 HB1 HB2 HB3 HBW
    by_cases hk0 : k = 0
    · subst hk0
      have hqr := quot_val hE0 (show val ds = val qs * E + val rs from by have h := GV.out; rw [List.drop_zero] at h; exact h) GT.out
      obtain ⟨hq0, hr0⟩ := hqr
      rw [HA.out.value] at hq0 hr0
      rw [HE.out, HB.out.value] at hq0 hr0
      have hqv : val qs = (a.tdiv b).natAbs := by rw [hq0, Int.natAbs_tdiv]; rfl
      have hrv : val rs = (a.tmod b).natAbs := by rw [hr0, Int.natAbs_tmod]
      have hda : (a.tdiv b).natAbs < 10 ^ 200 := by
        rw [Int.natAbs_tdiv]
        refine Nat.lt_of_le_of_lt (Nat.div_le_self _ _) ?_
        rw [← HA.out.value]
        exact Nat.lt_of_lt_of_le (val_lt HA.out.dg.2.1) (Nat.pow_le_pow_right (by decide) (by rw [HA.out.dg.1]; exact hsh))
      have hma : (a.tmod b).natAbs < 10 ^ 200 := by rw [← hrv]; exact Nat.lt_trans GT.out HES.out
      obtain ⟨y, hy⟩ : ∃ y, y = (s == t) := ⟨_, rfl⟩
      have hye : (s == t) = y := hy.symm
      have hsq : a.tdiv b ≠ 0 → (!y) = decide (a.tdiv b < 0) := fun h => by
        rw [hy, HA.out.sign, HB.out.sign]
        exact div_sign h
      have hsr : a.tmod b ≠ 0 → s = decide (a.tmod b < 0) := fun h => by
        rw [HA.out.sign]
        exact mod_sign h
      obtain ⟨Aq, cq, rfl, hdq, hnilq, hleq⟩ := GO.out.dg GF.out
      have hdw : Stays wr wr.drew := fun p _ => by simp
      obtain ⟨lq, hlq'⟩ : ∃ l, l = qs.length := ⟨_, rfl⟩
      rw [← hlq'] at hdq hleq
      have hl200 : lq ≤ 200 := by rw [hlq']; have := GL.out; omega
      rw [← hlq']
      have NQ := Lib.hid (trimB_any (!y) Aq lq cq qs (a.tdiv b) wr.drew (hdq.ext hdw) (by omega) hleq hnilq hqv hsq hda)
      have NR := Lib.hid (fun w4 (h : Stays wr.drew w4) => trimB_any s A3 n3 c3 rs (a.tmod b) w4 ((GD.out.ext hdw).ext h) (by omega) hle hnil hrv hsr hma)
      have D0 := Lib.hid (show Bg wr.drew w.heap.size s (.slice A n c) from G0.out)
      have D1 := Lib.hid (show Bg wr.drew (w.heap.size + 1) t (.slice A2 n2 c2) from G1.out)
      have D2 := Lib.hid (show Bg wr.drew (w.heap.size + 1 + 1) false (.slice none 0 0) from G2.out)
      have D3 := Lib.hid (show Bg wr.drew (w.heap.size + 1 + 1 + 1) false (.slice none 0 0) from G3.out)
      have DR := Lib.hid (show Below w.heap.size w wr.drew from GR.out.drew)
      have k00 := G0.out.cell0
      have k10 := G1.out.cell0
      have hsz' : w.heap.size + 1 + 1 + 1 < wr.drew.heap.size := hsz
      clear hq0 hr0 hqv hrv hda hma hsq hsr hdq hdw hlq' hy G0 G1 G2 G3 GO GF GL GD GN GV GR GT HA HB HVD HE HES c01 c11 hsz
      go_wp2_with fail
      go_region_law (first | (go_simp; go_at_call 33; have hb4q := hb4; refine Calls.mono (NR.out _ (stays_below hb4q)) ?_; rintro e w5 ⟨s5, k5, rfl, hk5, hz5, hb5⟩; have hg2 := (D2.out.below hb4 (by omega)).below hb5 (by have := hb4.size; omega); have hg3 := (D3.out.below hb4 hsz').below hb5 (by have := hb4.size; omega); have c20 := hg2.cell0; have f20 := hg2.frozen 0; have c21 := (hg2.set0 s4).cell1; have f21 := (hg2.set0 s4).frozen 1; have hg3' := (hg3.other ⟨w.heap.size + 1 + 1, 0, none⟩ (.bool s4) (by show w.heap.size + 1 + 1 + 1 ≠ w.heap.size + 1 + 1; omega)).other ⟨w.heap.size + 1 + 1, 1, none⟩ (.slice Aq k4 cq) (by show w.heap.size + 1 + 1 + 1 ≠ w.heap.size + 1 + 1; omega); have c30 := hg3'.cell0; have f30 := hg3'.frozen 0; have c31 := (hg3'.set0 s5).cell1; have f31 := (hg3'.set0 s5).frozen 1) | (go_simp; go_at_call 33; refine Calls.mono NQ.out ?_; rintro e w4 ⟨s4, k4, rfl, hk4, hz4, hb4⟩; have k00 := (D0.out.below hb4 (by omega)).cell0))
      all_goals
        have hq6 := dg_store (hz4.dg.ext (stays_below hb5)) hg2 (.bool s4) (.slice Aq k4 cq)
        have hr6 := dg_store hz5.dg hg2 (.bool s4) (.slice Aq k4 cq)
        have hq7 := dg_store hq6 hg3' (.bool s5) (.slice A3 k5 c3)
        have hr7 := dg_store hr6 hg3' (.bool s5) (.slice A3 k5 c3)
        have hbe := DR.out.trans (hb4.mono DR.out.size)
        have I1 := Lib.hid (hz4.redg hq7)
        have I2 := Lib.hid (hz5.redg hr7)
        have I3 := Lib.hid (((((hbe.trans (hb5.mono hbe.size)).setCell (p := ⟨w.heap.size + 1 + 1, 0, none⟩) (by show w.heap.size ≤ w.heap.size + 1 + 1; omega) (.bool s4)).setCell (p := ⟨w.heap.size + 1 + 1, 1, none⟩) (by show w.heap.size ≤ w.heap.size + 1 + 1; omega) (.slice Aq k4 cq)).setCell (p := ⟨w.heap.size + 1 + 1 + 1, 0, none⟩) (by show w.heap.size ≤ w.heap.size + 1 + 1 + 1; omega) (.bool s5)).setCell (p := ⟨w.heap.size + 1 + 1 + 1, 1, none⟩) (by show w.heap.size ≤ w.heap.size + 1 + 1 + 1; omega) (.slice A3 k5 c3))
        have I4 := Lib.hid ((((hg2.set0 s4).set1 (.slice Aq k4 cq)).other ⟨w.heap.size + 1 + 1 + 1, 0, none⟩ (.bool s5) (by show w.heap.size + 1 + 1 ≠ w.heap.size + 1 + 1 + 1; omega)).other ⟨w.heap.size + 1 + 1 + 1, 1, none⟩ (.slice A3 k5 c3) (by show w.heap.size + 1 + 1 ≠ w.heap.size + 1 + 1 + 1; omega))
        have I5 := Lib.hid ((hg3'.set0 s5).set1 (.slice A3 k5 c3))
        clear hq6 hr6 hq7 hr7 hbe hz4 hz5 hg2 hg3 hg3' hb4 hb5 hb4q c20 f20 c21 f21 c30 f30 c31 f31 k00 k10 NQ NR
        go_wp2_with fail
        refine bodyPost_ret (v := .tuple #[.agg #[.bool s4, .slice Aq k4 cq], .agg #[.bool s5, .slice A3 k5 c3]]) ?_ rfl ?_
        · exact results_two_rows rfl _ _ (w.heap.size + 1 + 1) (w.heap.size + 1 + 1 + 1) 25 _ _ (0, 0) (0, 0) _ rfl I4.out rfl I5.out Try.underlying25 rfl info25 info25
        · exact ⟨_, rfl, _, _, rfl, ⟨s4, Aq, k4, cq, _, rfl, I1.out⟩, ⟨s5, A3, k5, c3, _, rfl, I2.out⟩, I3.out⟩
    · obtain ⟨j, rfl⟩ : ∃ j, k = j + 1 := ⟨k - 1, by omega⟩
      have e0 : ((j + 1 : Nat) : Int) - 1 = (j : Int) := by omega
      rw [e0]
      clear e0
      obtain ⟨bb, off, hA1, hcc⟩ := (HA.out.dg.ext (stays_below GR.out)).2.2 (by omega)
      have hcell := hcc j (by omega)
      have hvd := HVD.out j (by rw [HA.out.dg.1]; omega)
      have hd10 := fig_getD HA.out.dg.2.1 j
      obtain ⟨d, hd⟩ : ∃ d, d = ds.getD j 0 := ⟨_, rfl⟩
      rw [← hd] at hcell hvd hd10
      have HD := Lib.hid hvd
      have HDD := Lib.hid hd
      subst hA1
      have HO1 := Lib.hid (own_one wr wr.heap.size (Nat.le_refl _) d)
      have HD4 := Lib.hid (GD.out.ext (stays_alloc wr (.cells #[.int .i64 (d : Int)] 3)))
      have HBA := Lib.hid (show Below wr.heap.size wr (wr.alloc (.cells #[.int .i64 (d : Int)] 3)) from (Below.refl _ _).alloc (Nat.le_refl _) _)
      obtain ⟨us, hus⟩ : ∃ us, us = [d] ++ rs := ⟨_, rfl⟩
      have hfu : Fig us := by rw [hus]; exact fig_append (fig_one hd10) GD.out.2.1
      have hvu : val us = d + 10 * val rs := by rw [hus]; simp [val]
      have hlu : us.length ≤ 202 := by rw [hus]; have := GD.out.1; simp; omega
      have HUS := Lib.hid hus
      have HFU := Lib.hid hfu
      have HVU := Lib.hid hvu
      have HLU := Lib.hid hlu
      clear hcc hvd hd hus hfu hvu hlu
      go_wp2_with (at_builtin; refine wpList_append_dg rfl (.tmp 23) (.tmp 24) rfl wr.heap.size _ [d] rfl HO1.out A3 n3 c3 rs rfl HD4.out hnil (by simp; omega) (by rw [World.size_alloc]; omega) ?_; intro v5 w5 hown5 hb5; rw [← HUS.out] at hown5; obtain ⟨A5, c5, rfl, hd5, hnil5, hle5⟩ := hown5.dg HFU.out)
      have hb5' := HBA.out.trans hb5
      have K0 := Lib.hid (G0.out.below hb5' (by omega))
      have K1 := Lib.hid (G1.out.below hb5' (by omega))
      have K2 := Lib.hid (G2.out.below hb5' (by omega))
      have K3 := Lib.hid (G3.out.below hb5' hsz)
      have KO := Lib.hid (own_ext GO.out hb5')
      have KR := Lib.hid (GR.out.trans (hb5'.mono GR.out.size))
      have KT := Lib.hid (trim_any false A5 us.length c5 us w5 hd5 (by have := HLU.out; omega) hle5)
      have KD := Lib.hid hd5
      have HLE := Lib.hid hle5
      clear hb5 hb5' hown5 hd5 hle5 HO1 HD4 HBA G0 G1 G2 G3 GO GR hcell c01 c11
      refine Calls.mono KT.out ?_
      rintro e w6 ⟨k6, rfl, hk6, hno6, hv6, hb6⟩
      have hsz6 := Nat.lt_of_lt_of_le K3.out.lt hb6.size
      have L0 := Lib.hid (K0.out.below hb6 (by have := K3.out.lt; omega))
      have L1 := Lib.hid (K1.out.below hb6 (by have := K3.out.lt; omega))
      have L2 := Lib.hid (K2.out.below hb6 (by have := K3.out.lt; omega))
      have L3 := Lib.hid (K3.out.below hb6 K3.out.lt)
      have LO := Lib.hid (own_ext KO.out hb6)
      have LR := Lib.hid (KR.out.trans (hb6.mono KR.out.size))
      have LD := Lib.hid ((KD.out.take k6 hk6).ext (stays_below hb6))
      have LN := Lib.hid hno6
      rw [HVU.out] at hv6
      obtain ⟨R, hR⟩ : ∃ R, R = d + 10 * val rs := ⟨_, rfl⟩
      rw [← hR] at hv6
      have LV := Lib.hid (show R = 0 * E + val (us.take k6) by rw [hv6]; omega)
      have LRR := Lib.hid (show R < 10 * E by have := GT.out; omega)
      have LRE := Lib.hid hR
      have hle6 : k6 ≤ c5 := Nat.le_trans hk6 HLE.out
      have hfd := run_figures
      clear hb6 hno6 hv6 hR KT KD K0 K1 K2 K3 KO KR
      go_wp2_with fail
      go_loopw [7, 9] (fun v i wq => ∃ (m : Nat) (A7 : Option Addr) (n7 c7 : Nat) (ts : List Nat), v = .slice A7 n7 c7 ∧ i = .int .i64 (m : Int) ∧ Bg wq w.heap.size s (.slice (some ⟨bb, off, none⟩) n c) ∧ Bg wq (w.heap.size + 1) t (.slice A2 n2 c2) ∧ Bg wq (w.heap.size + 1 + 1) false (.slice none 0 0) ∧ Bg wq (w.heap.size + 1 + 1 + 1) false (.slice none 0 0) ∧
        Own wq (w.heap.size + 1 + 1 + 1 + 1) u6 qs ∧ Dg wq A7 n7 ts ∧ Norm ts ∧ n7 ≤ c7 ∧ (A7 = none → c7 = 0) ∧ R = m * E + val ts ∧ Below w.heap.size w wq) (fun _ i _ => 10 - (intOf i).toNat)
      case atStart => exact ⟨0, A5, k6, c5, us.take k6, rfl, rfl, L0.out, L1.out, L2.out, L3.out, LO.out, LD.out, LN.out, hle6, hnil5, LV.out, LR.out⟩
      case round =>
        obtain ⟨m, A7, n7, c7, ts, rfl, rfl, g0, g1, g2, g3, gO, gd, gn, gl, gnil, gv, gr⟩ := hrel
        clear L0 L1 L2 L3 LO LD LN LV LR hle6 hnil5 hk6
        have hm10 := count_lt gv LRR.out
        have d11 := g1.cell1
        have hsq := g3.lt
        have hts : val ts ≤ R := by omega
        have hl7 : n7 ≤ 201 := by have := val_short gn HES.out (by have := LRR.out; omega); rw [gd.1] at this; exact this
        have C := less_any A7 n7 c7 ts A2 n2 c2 es wr gd (HB.out.dg.ext (stays_below gr)) (by omega) (by omega)
        rw [← HE.out] at C
        by_cases hlt7 : val ts < E
        · rw [decide_eq_true hlt7] at C
          have DC := Lib.hid C
          obtain ⟨Aq, cq, rfl, hdq, hnilq, hleq⟩ := gO.dg GF.out
          have M1 := Lib.hid (own_one wr wr.heap.size (Nat.le_refl _) m)
          have M2 := Lib.hid (hdq.ext (stays_alloc wr (.cells #[.int .i64 (m : Int)] 3)))
          have M3 := Lib.hid (show Below wr.heap.size wr (wr.alloc (.cells #[.int .i64 (m : Int)] 3)) from (Below.refl _ _).alloc (Nat.le_refl _) _)
          have P0 := Lib.hid g0
          have P1 := Lib.hid g1
          have P2 := Lib.hid g2
          have P3 := Lib.hid g3
          have PD := Lib.hid gd
          have PN := Lib.hid gn
          have PV := Lib.hid gv
          have PR := Lib.hid gr
          obtain ⟨ps, hps⟩ : ∃ ps, ps = [m] ++ qs := ⟨_, rfl⟩
          have hfp : Fig ps := by rw [hps]; exact fig_append (fig_one hm10) GF.out
          have hvp : val ps = m + 10 * val qs := by rw [hps]; simp [val]
          have hlp : ps.length ≤ n - j := by rw [hps]; have := GL.out; simp; omega
          have QS := Lib.hid hps
          have QF := Lib.hid hfp
          have QV := Lib.hid hvp
          have QL := Lib.hid hlp
          have hq200 : qs.length ≤ 200 := by have := GL.out; omega
          clear C g0 g1 g2 g3 gd gn gv gr gO hdq hps hfp hvp hlp
          go_wp2_with fail
          refine Calls.mono DC.out ?_
          rintro e w8 ⟨rfl, rfl⟩
          go_wp2_with (at_builtin; refine wpList_append_dg rfl (.tmp 44) (.tmp 45) rfl wr.heap.size _ [m] rfl M1.out Aq qs.length cq qs rfl M2.out hnilq (by simp; omega) (by rw [World.size_alloc]; omega) ?_; intro v9 w9 hown9 hb9; rw [← QS.out] at hown9)
          have hb9' := M3.out.trans hb9
          have R0 := Lib.hid (P0.out.below hb9' (by omega))
          have R1 := Lib.hid (P1.out.below hb9' (by omega))
          have R2 := Lib.hid (P2.out.below hb9' (by omega))
          have R3 := Lib.hid (P3.out.below hb9' hsq)
          have RO := Lib.hid (own_low hown9 (show w.heap.size + 1 + 1 + 1 + 1 ≤ wr.heap.size by omega))
          have RD := Lib.hid (PD.out.ext (stays_below hb9'))
          have RR := Lib.hid (PR.out.trans (hb9'.mono PR.out.size))
          have hfin := div_step HD.out GV.out (LRE.out.symm.trans PV.out)
          rw [← QV.out] at hfin
          have RV := Lib.hid hfin
          clear hb9 hb9' hown9 hfin M1 M2 M3 P0 P1 P2 P3
          go_wp2_with fail
          go_roundw
          case rel => exact ⟨j, ps, A7, n7, c7, ts, rfl, by omega, rfl, R0.out, R1.out, R2.out, R3.out, RO.out, QF.out, QL.out, RD.out, PN.out, gl, gnil, hlt7, RV.out, RR.out⟩
          case measure => simp [intOf]
        · rw [decide_eq_false hlt7] at C
          have DC := Lib.hid C
          have S := rest_any A7 n7 c7 ts A2 n2 c2 es wr gd (HB.out.dg.ext (stays_below gr)) (by omega) (by omega) (by rw [← HE.out]; exact Nat.le_of_not_lt hlt7)
          rw [← HE.out] at S
          have DS := Lib.hid S
          have PV := Lib.hid (count_next gv (Nat.le_of_not_lt hlt7))
          have P0 := Lib.hid g0
          have P1 := Lib.hid g1
          have P2 := Lib.hid g2
          have P3 := Lib.hid g3
          have PO := Lib.hid gO
          have PR := Lib.hid gr
          clear C S g0 g1 g2 g3 gd gn gv gr gO
          go_wp2_with fail
          refine Calls.mono DC.out ?_
          rintro e w8 ⟨rfl, rfl⟩
          go_wp2_with fail
          refine Calls.mono DS.out ?_
          rintro e w9 ⟨v9, rfl, vs, hown9, hf9, hv9, hl9, hb9⟩
          obtain ⟨A9, c9, rfl, hd9, hnil9, hle9⟩ := hown9.dg hf9
          have R0 := Lib.hid (P0.out.below hb9 (by omega))
          have R1 := Lib.hid (P1.out.below hb9 (by omega))
          have R2 := Lib.hid (P2.out.below hb9 (by omega))
          have R3 := Lib.hid (P3.out.below hb9 hsq)
          have RO := Lib.hid (own_ext PO.out hb9)
          have RR := Lib.hid (PR.out.trans (hb9.mono PR.out.size))
          have RT := Lib.hid (trim_any false A9 vs.length c9 vs w9 hd9 (by omega) hle9)
          have RD := Lib.hid hd9
          rw [← hv9] at PV
          have RV := PV
          have RL := Lib.hid hle9
          have hsz9 := R3.out.lt
          clear hl9 hown9 hb9 hd9 hle9 hv9 hf9 P0 P1 P2 P3 PO PR d11
          go_wp2_with fail
          refine Calls.mono RT.out ?_
          rintro e w10 ⟨k10, rfl, hk10, hno10, hv10, hb10⟩
          rw [← hv10] at RV
          have T0 := Lib.hid (R0.out.below hb10 (by omega))
          have T1 := Lib.hid (R1.out.below hb10 (by omega))
          have T2 := Lib.hid (R2.out.below hb10 (by omega))
          have T3 := Lib.hid (R3.out.below hb10 hsz9)
          have TO := Lib.hid (own_ext RO.out hb10)
          have TR := Lib.hid (RR.out.trans (hb10.mono RR.out.size))
          have TD := Lib.hid ((RD.out.take k10 hk10).ext (stays_below hb10))
          have TN := Lib.hid hno10
          have TL := Lib.hid (Nat.le_trans hk10 RL.out)
          clear hno10 hv10 hb10 hk10 R0 R1 R2 R3 RO RR RT RD RL
          go_wp2_with fail
          go_roundw
          case rel => exact ⟨m + 1, A9, k10, c9, vs.take k10, rfl, by go_num, T0.out, T1.out, T2.out, T3.out, TO.out, TD.out, TN.out, TL.out, hnil9, RV.out, TR.out⟩
          case measure => simp [intOf]; omega
end Go.Proofs.Ytfajalhpenincaa
