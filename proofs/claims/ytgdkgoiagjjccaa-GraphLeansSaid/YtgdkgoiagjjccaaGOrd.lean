/- GraphOrders' walk. -/
import Derived.Test.YtgdkgoiagjjccaaGAliv
import Derived.Test.YtgdkgoiagjjccaaGOrdM
import Derived.Test.YtgdkgoiagjjccaaGLstLaw
import Derived.Test.YtgdkgoiagjjccaaGKeep
namespace Go.Proofs.Ytgdkgoiagjjccaa
set_option maxRecDepth 100000
open Go.RowKit Go.Shelf

theorem leansL_fits (fs : List Ft) (hn : fs.length ≤ 10000) (j : Nat) : ∀ x ∈ (leansL fs).getD j [], Fits x := fun x hx => by
  have h2 := (leansL_good fs).mem hx
  have hj : j < (leansL fs).length := by
    rcases Nat.lt_or_ge j (leansL fs).length with h | h
    · exact h
    · rw [List.getD_eq_getElem?_getD, List.getElem?_eq_none h] at hx
      cases hx
  rw [leansL_len] at hj
  unfold Fits
  omega
theorem leansL_small (fs : List Ft) (hn : fs.length ≤ 10000) (j : Nat) : ((leansL fs).getD j []).length ≤ 10000 := by
  rcases Nat.lt_or_ge j (leansL fs).length with h | h
  · have := row_len (leansL_good fs) j
    rw [leansL_len] at h
    omega
  · rw [List.getD_eq_getElem?_getD, List.getElem?_eq_none h]
    simp
theorem byTo_fits {lv : Nat → Int} {n v : Nat} (h0 : ∀ i, i < n → 0 ≤ lv i) (hn : n ≤ 10000) : ∀ x ∈ byTo lv n v, Fits x := fun x hx => by
  have := (byTo_mem h0).1 hx
  unfold Fits
  omega
theorem below_succ (n : Nat) : below (n + 1) = below n ++ [(n : Int)] := by
  unfold below
  rw [List.range_succ, List.map_append]
  rfl
theorem below_fits {n : Nat} (hn : n ≤ 10000) : ∀ x ∈ below n, Fits x := fun x hx => by
  have := below_mem.1 hx
  unfold Fits
  omega
theorem own_z (w : World) (B : Nat) (hB : B ≤ w.heap.size) : (w.alloc (.cells #[] 3)).ownsRow B 3 1 (.slice (some ⟨w.heap.size, 0, none⟩) 0 0) 0 (valsZ []) := own_empty w B 3 1 3 rfl hB
set_option maxHeartbeats 8000000 in
theorem orders_law (A : Option Addr) (n c : Nat) (A2 : Option Addr) (n2 c2 : Nat) (fs : List Ft) (o : List Int) (w : World) (h : Fts w A n fs) (ho : Nums w A2 n2 o) (hn2 : n2 ≤ 9223372036854775807) :
    Calls Try.prog 10 #[.slice A n c, .slice A2 n2 c2] w fun e w' => e = .returned (.bool true) ∧ Below w.heap.size w w' := by
  have HH := Lib.hid h
  have HO := Lib.hid ho
  have HL := Lib.hid h.1
  have HA := Lib.hid (galive_any w)
  clear h ho
  go_enter Try.func10, Try.ntmps10
  go_wp2_with fail
  refine Calls.mono HA.out ?_
  rintro e w1 ⟨rfl, hb1⟩
  have HB1 := Lib.hid hb1
  have HH1 := Lib.hid (HH.out.below hb1)
  have HO1 := Lib.hid (HO.out.ext (stays_w hb1))
  clear hb1
  go_wp2_with fail
  go_loopw [5, 6, 21] (fun _ _ i wr => ∃ k : Nat, i = .int .i64 (k : Int) ∧ k ≤ n ∧ k ≤ 21 ∧ Below w1.heap.size w1 wr) (fun _ _ i _ => n - (intOf i).toNat)
  case atStart => exact ⟨0, rfl, by omega, by omega, Below.refl _ _⟩
  case round =>
    obtain ⟨k, rfl, hk, hk21, hbr⟩ := hrel
    rename World => wr
    have HBR := Lib.hid hbr
    have hz := hbr.size
    by_cases hlt : k < n
    · obtain ⟨b, off, rfl, hc⟩ := (HH1.out.below hbr).2.2 (by omega)
      obtain ⟨x, hx, x0, x1, x2⟩ := hc k hlt
      have hsm := hx.small
      clear hc hx hbr
      by_cases h1 : 20 < k
      · have h1' : (20 : Int) < (k : Int) := by omega
        go_wp2_with fail
        go_ret
        exact ⟨rfl, HB1.out.trans ((HBR.out.alloc hz _).mono HB1.out.size)⟩
      have h1' : ¬ (20 : Int) < (k : Int) := by omega
      by_cases h2 : 20 < x.n
      · have h2' : (20 : Int) < (x.n : Int) := by omega
        go_wp2_with fail
        go_ret
        exact ⟨rfl, HB1.out.trans ((HBR.out.alloc hz _).mono HB1.out.size)⟩
      have h2' : ¬ (20 : Int) < (x.n : Int) := by omega
      by_cases h3 : 20 < x.n2
      · have h3' : (20 : Int) < (x.n2 : Int) := by omega
        go_wp2_with fail
        go_ret
        exact ⟨rfl, HB1.out.trans ((HBR.out.alloc hz _).mono HB1.out.size)⟩
      have h3' : ¬ (20 : Int) < (x.n2 : Int) := by omega
      by_cases h4 : 20 < x.n3
      · have h4' : (20 : Int) < (x.n3 : Int) := by omega
        go_wp2_with fail
        go_ret
        exact ⟨rfl, HB1.out.trans ((HBR.out.alloc hz _).mono HB1.out.size)⟩
      have h4' : ¬ (20 : Int) < (x.n3 : Int) := by omega
      go_wp2_with fail
      go_roundw
      case rel => exact ⟨k + 1, by go_num, by omega, by omega, HBR.out.alloc hz _⟩
      case measure => simp [intOf]; omega
    · obtain rfl : k = n := by omega
      clear hbr
      by_cases h30 : 30 < n2
      · have h30' : (30 : Int) < (n2 : Int) := by omega
        go_wp2_with fail
        go_ret
        exact ⟨rfl, HB1.out.trans (HBR.out.mono HB1.out.size)⟩
      have h30' : ¬ (30 : Int) < (n2 : Int) := by omega
      have hn : k ≤ 10000 := by omega
      have hfl : fs.length ≤ 10000 := by rw [HL.out]; exact hn
      have HLE := Lib.hid (leans_any A k c fs wr (HH1.out.below HBR.out) hn)
      go_wp2_with fail
      refine Calls.mono HLE.out ?_
      rintro e w2 ⟨_, rfl, ra, rc, A3, c3, rfl, hC⟩
      obtain ⟨G, hG⟩ : ∃ G, G = leansL fs := ⟨_, rfl⟩
      have HGL := Lib.hid (show G.length = k by rw [hG, leansL_len, HL.out])
      have HGG := Lib.hid (show GoodL G by rw [hG]; exact leansL_good fs)
      have HGF := Lib.hid (show ∀ j, ∀ x ∈ G.getD j [], Fits x by rw [hG]; exact leansL_fits fs hfl)
      have HGS := Lib.hid (show ∀ j, (G.getD j []).length ≤ 10000 by rw [hG]; exact leansL_small fs hfl)
      rw [← hG] at hC
      have HR2 := Lib.hid (rows_own2 hC.outer hC.inner HGL.out (by omega) HGF.out (fun j => by have := HGS.out j; omega))
      have HB2 := Lib.hid (HBR.out.trans (hC.below.mono hz))
      clear hC hG HLE
      go_wp2_with fail
      refine Calls.mono (least_ok A3 k c3 G w2 HR2.out HGG.out hn) ?_
      rintro e w3 ⟨rfl, ra3, rc3, hM⟩
      have HR3 := Lib.hid (HR2.out.below hM.below)
      have HM3 := Lib.hid (hM.rws (by rw [leastL_len]; exact HGL.out) (by omega) (leastL_fits HGG.out HGL.out hn) (fun j => by have := leastL_small HGG.out HGL.out hn j; omega))
      have HB3 := Lib.hid (HB2.out.trans (hM.below.mono HB2.out.size))
      clear hM
      go_wp2_with fail
      refine Calls.mono (levels_ok A3 k c3 G w3 HR3.out HGG.out hn) ?_
      rintro e w4 ⟨rfl, hV⟩
      have HV := Lib.hid hV
      have HR4 := Lib.hid (HR3.out.below hV.below)
      have HM4 := Lib.hid (HM3.out.below hV.below)
      have HB4 := Lib.hid (HB3.out.trans (hV.below.mono HB3.out.size))
      have HO4 := Lib.hid (HO1.out.ext (stays_w HB4.out))
      clear hV
      have HK1 := Lib.hid (show Calls Try.prog 35 #[.slice A3 k c3, .slice A2 n2 c2] w4 (fun e w' => e = .returned (.bool (if n2 = k then keepsB G o else false)) ∧ Below w4.heap.size w4 w') from by
        by_cases e : n2 = k
        · subst e
          rw [if_pos rfl]
          exact keeps_ok A3 n2 c3 A2 c2 G o w4 HR4.out HO4.out HGG.out hn
        · rw [if_neg e]
          refine Calls.mono (keeps_form A3 k c3 A2 n2 c2 G w4 HR4.out fun hc => e hc.2) ?_
          rintro e w' ⟨rfl, rfl⟩
          exact ⟨rfl, Below.refl _ _⟩)
      obtain ⟨r, hr⟩ : ∃ r, r = (if n2 = k then keepsB G o else false) := ⟨_, rfl⟩
      have HRR := Lib.hid hr
      rw [← hr] at HK1
      clear hr
      go_wp2_with fail
      refine Calls.mono HK1.out ?_
      rintro e w5 ⟨rfl, hb5⟩
      have HB45 := Lib.hid hb5
      have HR5 := Lib.hid (HR4.out.below hb5)
      have HM5 := Lib.hid (HM4.out.below hb5)
      have HO5 := Lib.hid (HO4.out.ext (stays_w hb5))
      clear hb5
      have HK2 := Lib.hid (show Calls Try.prog 35 #[.slice (some ⟨w2.heap.size + 3, 0, none⟩) k k, .slice A2 n2 c2] w5 (fun e w' => e = .returned (.bool r) ∧ Below w5.heap.size w5 w') from by
        rw [HRR.out]
        by_cases e : n2 = k
        · subst e
          rw [if_pos rfl, ← keepsB_least HGG.out]
          exact keeps_ok _ n2 n2 A2 c2 (leastL G) o w5 HM5.out HO5.out (leastL_good HGG.out) hn
        · rw [if_neg e]
          refine Calls.mono (keeps_form _ k k A2 n2 c2 (leastL G) w5 HM5.out fun hc => e hc.2) ?_
          rintro e w' ⟨rfl, rfl⟩
          exact ⟨rfl, Below.refl _ _⟩)
      go_wp2_with fail
      refine Calls.mono HK2.out ?_
      rintro e w6 ⟨rfl, hb6⟩
      have hrr : (r != r) = false := by simp
      have HB46 := Lib.hid (HB45.out.trans (hb6.mono HB45.out.size))
      clear hb6
      have HV6 := Lib.hid (HV.out.ext (C := w4.heap.size) HV.out.below.size HV.out.lt HV.out.below.size HB46.out)
      have HB6 := Lib.hid (HB4.out.trans (HB46.out.mono HB4.out.size))
      have hz6 := HB46.out.size
      clear h30'
      go_wp2_with fail
      obtain ⟨lv, hlv⟩ : ∃ lv, lv = fun i => (lvTo G k).getD i 0 := ⟨_, rfl⟩
      have hl0 : ∀ i, i < k → 0 ≤ lv i := fun i hi => by rw [hlv]; exact (lvTo_bd HGG.out k i hi).1
      have hl1 : ∀ i, i < k → lv i < (k : Int) := fun i hi => by rw [hlv]; have := (lvTo_bd HGG.out k i hi).2; show (lvTo G k).getD i 0 < _; omega
      have HV7 := Lib.hid (show LV w3.heap.size w3 w3.heap.size k lv w6 by rw [hlv]; exact HV6.out)
      have HKB := Lib.hid (show keepsB G (byTo lv k k) = true by rw [hlv]; exact by_keeps HGG.out HGL.out)
      have HL0 := Lib.hid hl0
      have HBL := Lib.hid (byTo_all hl0 hl1)
      clear hlv hl0 hl1
      have HZ := Lib.hid (own_z w6 w6.heap.size (Nat.le_refl _))
      go_loopw [11, 12, 13, 14, 80] (fun y _ _ _ i wx => ∃ v : Nat, i = .int .i64 (v : Int) ∧ v ≤ k ∧ wx.ownsRow w6.heap.size 3 1 y (byTo lv k v).length (valsZ (byTo lv k v)) ∧ Below w6.heap.size w6 wx) (fun _ _ _ _ i _ => k - (intOf i).toNat)
      case atStart => exact ⟨0, rfl, by omega, HZ.out, (Below.refl _ w6).alloc (Nat.le_refl _) _⟩
      case round =>
        obtain ⟨v, rfl, hv, hown, hbx⟩ := hrel
        rename World => wx
        by_cases hvk : v < k
        · have HOW := Lib.hid (show wx.ownsRow w6.heap.size 3 1 u11 (byTo lv k v ++ selTo (fun i => decide (lv i = (v : Int))) 0).length (valsZ (byTo lv k v ++ selTo (fun i => decide (lv i = (v : Int))) 0)) by
            have e : byTo lv k v ++ selTo (fun i => decide (lv i = (v : Int))) 0 = byTo lv k v := by simp [selTo]
            rw [e]; exact hown)
          have HBX := Lib.hid hbx
          clear hown hbx
          go_wp2_with fail
          go_loopw [11, 13, 14, 85] (fun y _ _ i wy => ∃ q : Nat, i = .int .i64 (q : Int) ∧ q ≤ k ∧ wy.ownsRow w6.heap.size 3 1 y (byTo lv k v ++ selTo (fun i => decide (lv i = (v : Int))) q).length (valsZ (byTo lv k v ++ selTo (fun i => decide (lv i = (v : Int))) q)) ∧ Below w6.heap.size w6 wy) (fun _ _ _ i _ => k - (intOf i).toNat)
          case atStart => exact ⟨0, rfl, by omega, HOW.out, HBX.out⟩
          case round =>
            obtain ⟨q, rfl, hq, hown, hby⟩ := hrel
            rename World => wy
            clear HOW HBX
            by_cases hqk : q < k
            · have hVy := HV7.out.ext (C := w6.heap.size) (Nat.le_trans HV.out.below.size hz6) HV7.out.lt (Nat.le_trans HV.out.below.size hz6) hby
              have cq := hVy.cells q hqk
              have hs := selTo_succ (fun i => decide (lv i = (v : Int))) q
              have hfit : ∀ x ∈ byTo lv k v ++ selTo (fun i => decide (lv i = (v : Int))) q, Fits x := fun x hx => by
                rcases List.mem_append.1 hx with hx | hx
                · exact byTo_fits HL0.out hn x hx
                · exact selTo_fits _ q (by omega) x hx
              obtain ⟨A6, c6, hv6, _, _, _⟩ := nums_own hown hfit
              subst hv6
              have hlb : (byTo lv k v ++ selTo (fun i => decide (lv i = (v : Int))) q).length ≤ 2 * k := by
                rw [List.length_append]
                have h1 := selTo_len (fun i => decide (lv i = (v : Int))) q
                obtain ⟨S, hS⟩ := byTo_pre (lv := lv) (n := k) hv
                have h2 := HBL.out
                rw [hS, List.length_append] at h2
                omega
              obtain ⟨z, hz0⟩ : ∃ z, z = lv q := ⟨_, rfl⟩
              simp only [← hz0] at hs
              rw [← hz0] at cq
              have HS := Lib.hid hs
              have HO6 := Lib.hid hown
              have HBY := Lib.hid hby
              have hyz := hby.size
              clear hs hown hby hVy hfit hz0
              by_cases hzv : z = (v : Int)
              · have e1 : (z == (v : Int)) = true := beq_iff_eq.2 hzv
                have HO7 := Lib.hid (World.ownsRow.alloc HO6.out (.cells #[.int .i64 (q : Int)] 3))
                have HR7 := Lib.hid (rdv_one1 wy (.int .i64 (q : Int)) 3)
                obtain ⟨u, hu⟩ : ∃ u, u = (byTo lv k v ++ selTo (fun i => decide (lv i = (v : Int))) q).length := ⟨_, rfl⟩
                have HU := Lib.hid hu
                rw [← hu] at HO7 hlb ⊢
                clear hu
                go_wp2_with (at_builtin; refine wpList_append_rowv elem38 rfl (.tmp 93) (.tmp 95) rfl w6.heap.size _ u (valsZ (byTo lv k v ++ selTo (fun i => decide (lv i = (v : Int))) q)) rfl HO7.out (some ⟨wy.heap.size, 0, none⟩) 1 1 [.int .i64 (q : Int)] rfl HR7.out (one_int1 _) (fun h => by cases h) (by unfold maxLen; omega) (by omega) (by rw [World.size_alloc]; omega) ?_; intro v3 w7 hown7 hb7)
                go_roundw
                case rel =>
                  refine ⟨q + 1, by go_num, by omega, ?_, (HBY.out.alloc hyz _).trans hb7⟩
                  rw [HS.out, if_pos (decide_eq_true hzv), ← List.append_assoc, List.length_append, valsZ_snoc, ← HU.out]
                  exact hown7
                case measure => simp [intOf]; omega
              · have e1 : (z == (v : Int)) = false := beq_eq_false_iff_ne.2 hzv
                go_wp2_with fail
                go_roundw
                case rel =>
                  refine ⟨q + 1, by go_num, by omega, ?_, HBY.out⟩
                  rw [HS.out, if_neg (by rw [decide_eq_false hzv]; decide), List.append_nil]
                  exact HO6.out
                case measure => simp [intOf]; omega
            · obtain rfl : q = k := by omega
              have HO6 := Lib.hid hown
              have HBY := Lib.hid hby
              clear hown hby
              go_wp2_with fail
              go_roundw
              case rel => exact ⟨v + 1, by go_num, by omega, HO6.out, HBY.out⟩
              case measure => simp [intOf]; omega
        · obtain rfl : v = k := by omega
          obtain ⟨A6, c6, hv6, hnum, _, _⟩ := nums_own hown (byTo_fits HL0.out hn)
          subst hv6
          rw [HBL.out] at hnum ⊢
          have hbx6 := hbx.size
          have HBX := Lib.hid hbx
          have HNB := Lib.hid hnum
          have HZ2 := Lib.hid (own_z wx w6.heap.size hbx6)
          clear hown hbx hnum
          go_wp2_with fail
          go_loopw [15, 16, 102] (fun y _ i wy => ∃ q : Nat, i = .int .i64 (q : Int) ∧ q ≤ v ∧ wy.ownsRow wx.heap.size 3 1 y (below q).length (valsZ (below q)) ∧ Below wx.heap.size wx wy) (fun _ _ i _ => v - (intOf i).toNat)
          case atStart => exact ⟨0, rfl, by omega, own_z wx wx.heap.size (Nat.le_refl _), (Below.refl _ wx).alloc (Nat.le_refl _) _⟩
          case round =>
            obtain ⟨q, rfl, hq, hown, hby⟩ := hrel
            rename World => wy
            obtain ⟨A7, c7, hv7, hnum7, _, _⟩ := nums_own hown (below_fits (by omega))
            subst hv7
            rw [below_len] at hown hnum7 ⊢
            have HO6 := Lib.hid hown
            have HBY := Lib.hid hby
            have hyz := hby.size
            by_cases hqv : q < v
            · have HO7 := Lib.hid (World.ownsRow.alloc HO6.out (.cells #[.int .i64 (q : Int)] 3))
              have HR7 := Lib.hid (rdv_one1 wy (.int .i64 (q : Int)) 3)
              clear hown hby hnum7
              go_wp2_with (at_builtin; refine wpList_append_rowv elem38 rfl (.tmp 105) (.tmp 107) rfl wx.heap.size _ q (valsZ (below q)) rfl HO7.out (some ⟨wy.heap.size, 0, none⟩) 1 1 [.int .i64 (q : Int)] rfl HR7.out (one_int1 _) (fun h => by cases h) (by unfold maxLen; omega) (by omega) (by rw [World.size_alloc]; omega) ?_; intro v3 w7 hown7 hb7)
              go_roundw
              case rel =>
                refine ⟨q + 1, by go_num, by omega, ?_, (HBY.out.alloc hyz _).trans hb7⟩
                rw [below_succ, List.length_append, valsZ_snoc, below_len]
                exact hown7
              case measure => simp [intOf]; omega
            · obtain rfl : q = v := by omega
              have HB6y := Lib.hid (HBX.out.trans (hby.mono hbx6))
              have HR9 := Lib.hid ((HR4.out.below HB46.out).below HB6y.out)
              have HM9 := Lib.hid ((HM4.out.below HB46.out).below HB6y.out)
              have HN9 := Lib.hid (HNB.out.ext (stays_w hby))
              have HN7 := Lib.hid hnum7
              have HK3 := Lib.hid (keeps_ok A3 q c3 A6 c6 G (byTo lv q q) wy HR9.out HN9.out HGG.out hn)
              rw [HKB.out] at HK3
              clear hown hby hnum7
              go_wp2_with fail
              refine Calls.mono HK3.out ?_
              rintro e w8 ⟨rfl, hb8⟩
              have HB8 := Lib.hid hb8
              have HK4 := Lib.hid (keeps_ok _ q q A6 c6 (leastL G) (byTo lv q q) w8 (HM9.out.below hb8) (HN9.out.ext (stays_w hb8)) (leastL_good HGG.out) hn)
              rw [keepsB_least HGG.out, HKB.out] at HK4
              clear hb8
              go_wp2_with fail
              refine Calls.mono HK4.out ?_
              rintro e w9 ⟨rfl, hb9⟩
              have HB9 := Lib.hid (HB8.out.trans (hb9.mono HB8.out.size))
              have HK5 := Lib.hid (keeps_ok A3 q c3 A7 c7 G (below q) w9 (HR9.out.below HB9.out) (HN7.out.ext (stays_w HB9.out)) HGG.out hn)
              rw [straight_keeps HGG.out HGL.out] at HK5
              clear hb9
              go_wp2_with fail
              refine Calls.mono HK5.out ?_
              rintro e w10 ⟨rfl, hb10⟩
              have HB10 := Lib.hid (HB9.out.trans (hb10.mono HB9.out.size))
              clear hb10
              go_wp2_with fail
              go_ret
              have h1 := HB1.out.trans (HB6.out.mono HB1.out.size)
              have h2 := h1.trans (HB6y.out.mono h1.size)
              exact ⟨rfl, h2.trans (HB10.out.mono h2.size)⟩
end Go.Proofs.Ytgdkgoiagjjccaa
