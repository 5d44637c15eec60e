/- SlabSeals answers true of whatever slab: the walk. -/
import Derived.Test.YtiemjgkpjmncfaaOpensLaw
import Derived.Test.YtiemjgkpjmncfaaOwnIs
import Derived.Test.YtiemjgkpjmncfaaMarkW
import Derived.Test.YtiemjgkpjmncfaaCopy
namespace Go.Proofs.Ytiemjgkpjmncfaa
set_option maxRecDepth 100000
open Go.RowKit

theorem NewO.og {w w' : World} {A : Option Addr} {n c : Nat} {ys : List Nat} (h : NewO w w' A n c ys) : Og w' A n c ys := by
  refine ⟨h.1, ?_⟩
  rcases h.2 with h0 | ⟨g, cap, cur, e, _, h2⟩
  · exact .inl h0
  · exact .inr ⟨g, cap, cur, e, Nat.zero_le _, h2⟩
theorem NewO.at_ {w w' : World} {n c g : Nat} {ys : List Nat} (h : NewO w w' (some ⟨g, 0, none⟩) n c ys) : w.heap.size ≤ g ∧ g < w'.heap.size := World.ownsRow.lt h g rfl
theorem NewO.old {w w' w'' : World} {A : Option Addr} {n c : Nat} {ys : List Nat} (h : NewO w w' A n c ys) (hb : Below w'.heap.size w' w'') : NewO w w'' A n c ys :=
  h.stays fun b e _ => hb.block b (by subst e; exact h.at_.2)
/-- Two rows that were handed out one behind the other are apart. -/
theorem two_apart (w1 w2 w3 w : World) (A1 : Option Addr) (n1 c1 : Nat) (xs : List Nat) (A2 : Option Addr) (n2 c2 : Nat) (ys : List Nat) (h1 : NewO w1 w A1 n1 c1 xs) (h1' : ∀ g, A1 = some ⟨g, 0, none⟩ → g < w2.heap.size) (h2 : NewO w3 w A2 n2 c2 ys) (hs : w2.heap.size ≤ w3.heap.size)
    (hn1 : n1 ≤ 100000) (hn2 : n2 ≤ 100000) (B : Nat) (hB1 : B ≤ w1.heap.size) (hB3 : B ≤ w3.heap.size) (hB : B ≤ w.heap.size) :
    Calls Try.prog 43 #[.slice (some ⟨w.heap.size, 0, none⟩) 2 2] (w.alloc (.cells #[.slice A1 n1 c1, .slice A2 n2 c2] 45)) fun e w' => e = .returned (.bool true) ∧ Below B (w.alloc (.cells #[.slice A1 n1 c1, .slice A2 n2 c2] 45)) w' := by
  refine rows_apart w.heap.size 2 2 (fun i => if i = 0 then A1 else A2) (fun i => if i = 0 then n1 else n2) (fun i => if i = 0 then c1 else c2) (fun i => if i = 0 then xs else ys) _ ⟨fun i hi => ?_, by rw [World.size_alloc]; omega⟩ ⟨fun i j hi hj hij g h3 h4 => ?_, fun i hi h3 => ?_, fun i hi => ?_, by omega⟩ (fun i hi => ?_) B (by rw [World.size_alloc]; omega) (fun i hi g h3 => ?_)
  · rw [cell_of_row _ _ _ _ 45 (0, 0) (heap_alloc_new w _)]
    rcases i with _ | _ | i
    · rfl
    · rfl
    · omega
  · rcases i with _ | _ | i
    · rcases j with _ | _ | j
      · omega
      · simp at h3 h4
        subst h4
        have h5 := h1' g h3
        have h6 := h2.at_.1
        omega
      · omega
    · rcases j with _ | _ | j
      · simp at h3 h4
        subst h3
        have h5 := h1' g h4
        have h6 := h2.at_.1
        omega
      · omega
      · omega
    · omega
  · rcases i with _ | _ | i
    · simp at h3
      subst h3
      have := h1.at_.2
      omega
    · simp at h3
      subst h3
      have := h2.at_.2
      omega
    · omega
  · rcases i with _ | _ | i
    · exact hn1
    · exact hn2
    · omega
  · rcases i with _ | _ | i
    · exact (h1.later _).og
    · exact (h2.later _).og
    · omega
  · rcases i with _ | _ | i
    · simp at h3
      subst h3
      have := h1.at_.1
      omega
    · simp at h3
      subst h3
      have := h2.at_.1
      omega
    · omega
/-- What neither seals. -/
theorem both_bad (st kd : Int) (n : Nat) (h : ¬ Good st kd n) (hn : n ≤ 9223372036854775807) :
    ∃ k : Int, (k = 1 ∨ k = 2) ∧ (∀ A c w, Calls Try.prog 37 #[.agg #[.int .i64 st, .int .i64 kd, .slice A n c]] w fun e w' => e = .returned (.tuple #[.agg (secV (noughts 64)), .iface 71 (.int .i64 k)]) ∧ Below w.heap.size w w') ∧
      ∀ A c w, Calls Try.prog 38 #[.agg #[.int .i64 st, .int .i64 kd, .slice A n c]] w fun e w' => e = .returned (.tuple #[.agg (secV (noughts 64)), .int .i64 k]) ∧ Below w.heap.size w w' := by
  by_cases h1 : st < 1 ∨ 281474976710655 < st ∨ kd < 1 ∨ 255 < kd
  · exact ⟨1, .inl rfl, fun A c w => seal_range st kd A n c w h1, fun A c w => refSeal_range st kd A n c w h1⟩
  · have h5 : 50 < n := by unfold Good at h; omega
    exact ⟨2, .inr rfl, fun A c w => seal_form st kd A n c w (by omega) (by omega) (by omega) (by omega) h5 hn, fun A c w => refSeal_form st kd A n c w (by omega) (by omega) (by omega) (by omega) h5 hn⟩
/-- What the law knows of its argument. -/
structure One (w0 : World) (a k : Int) (A : Option Addr) (n c : Nat) (ds : List Nat) (w : World) : Prop where
  one : Ar w w0.heap.size a k (.slice A n c)
  ra : Rdv w A n 1 (valsB ds)
  below : Below w0.heap.size w0 w
  size : w0.heap.size + 1 ≤ w.heap.size
theorem One.old {w0 w w' : World} {a k : Int} {A : Option Addr} {n c : Nat} {ds : List Nat} (h : One w0 a k A n c ds w) (hb : Below w.heap.size w w') : One w0 a k A n c ds w' :=
  ⟨h.one.old hb (by have := h.size; omega), h.ra.ext (stays_b hb), h.below.trans (hb.mono h.below.size), Nat.le_trans h.size hb.size⟩
theorem One.alloc {w0 w : World} {a k : Int} {A : Option Addr} {n c : Nat} {ds : List Nat} (h : One w0 a k A n c ds w) (o : Obj) : One w0 a k A n c ds (w.alloc o) := h.old ((Below.refl w.heap.size w).alloc (Nat.le_refl _) o)
theorem one_new (w : World) (a k : Int) (A : Option Addr) (n c : Nat) (ds : List Nat) (ra : Rdv w A n 1 (valsB ds)) : One w a k A n c ds (w.alloc (.cells #[.int .i64 a, .int .i64 k, .slice A n c] 74)) := by
  have hb : Below w.heap.size w (w.alloc (.cells #[.int .i64 a, .int .i64 k, .slice A n c] 74)) := (Below.refl _ w).alloc (Nat.le_refl _) _
  exact ⟨heap_alloc_new w _, ra.ext (stays_b hb), hb, by simp⟩

set_option maxHeartbeats 4000000 in
theorem seals_law (a k : Int) (A : Option Addr) (n c : Nat) (ds : List Nat) (w : World) (ra : Rdv w A n 1 (valsB ds)) (hnil : A = none → c = 0) (hds : ∀ x ∈ ds, x < 256) (hn : n ≤ 9223372036854775807) :
    Calls Try.prog 8 #[.agg #[.int .i64 a, .int .i64 k, .slice A n c]] w fun e w' => e = .returned (.bool true) ∧ Below w.heap.size w w' := by
  have hld : ds.length = n := by have := ra.1; rw [valsB_length] at this; omega
  have HT := Lib.hid (one_new w a k A n c ds ra)
  have HAL := Lib.hid (alive_any (w.alloc (.cells #[.int .i64 a, .int .i64 k, .slice A n c] 74)))
  have HLD := Lib.hid hld
  have HNIL := Lib.hid hnil
  have HDS := Lib.hid hds
  clear ra hld hnil hds
  go_enter Try.func8, Try.ntmps8
  go_wp2_with fail
  refine Calls.mono HAL.out ?_
  rintro e w1 ⟨rfl, hb1⟩
  have HT1 := Lib.hid (HT.out.old hb1)
  clear hb1 HT
  have a0 := HT1.out.one.c0
  have a1 := HT1.out.one.c1
  have a2 := HT1.out.one.c2
  by_cases h1 : 5000 < n
  · have d1 : decide (5000 < (n : Int)) = true := decide_eq_true (by omega)
    go_wp2_with fail
    go_ret
    exact ⟨rfl, HT1.out.below⟩
  have d1 : decide (5000 < (n : Int)) = false := decide_eq_false (by omega)
  have HCP := Lib.hid (copy_any A n c ds w1 HT1.out.ra HNIL.out (by omega))
  go_wp2_with fail
  refine Calls.mono HCP.out ?_
  rintro e w2 ⟨g, cap, rfl, hm, hgw, hb2⟩
  have HT2 := Lib.hid (HT1.out.old hb2)
  have HM2 := Lib.hid hm
  clear hb2 hm a0 a1 a2 d1 hgw
  have a0 := HT2.out.one.c0
  have a1 := HT2.out.one.c1
  have a2 := HT2.out.one.c2
  by_cases hg : Good a k n
  · obtain ⟨h2, h3, h4, h5, h6⟩ := hg
    obtain ⟨st, rfl⟩ := Int.eq_ofNat_of_zero_le (show 0 ≤ a by omega)
    obtain ⟨kd, rfl⟩ := Int.eq_ofNat_of_zero_le (show 0 ≤ k by omega)
    have HC1 := Lib.hid (seal_ok st kd (some ⟨g, 0, none⟩) n cap ds w2 (by omega) (by omega) (by omega) (by omega) h6 HM2.out.row (fun h => by cases h))
    have HC2 := Lib.hid (fun w (hr : Rdv w A n 1 (valsB ds)) => refSeal_ok st kd A n c ds w (by omega) (by omega) (by omega) (by omega) h6 hr HDS.out)
    have hlen := sealN_length st kd ds (by rw [HLD.out]; exact h6)
    have HXS := Lib.hid (sealN_small st kd ds (by omega) (by rw [HLD.out]; exact h6) HDS.out)
    have HOP := Lib.hid (openN_sealN st kd ds (by omega) (by omega) (by omega) (by rw [HLD.out]; exact h6))
    obtain ⟨X, hX⟩ : ∃ X, X = sealN st kd ds := ⟨_, rfl⟩
    rw [← hX] at HC1 HC2 HXS HOP hlen
    have HXL := Lib.hid hlen
    clear hX hlen h2 h3 h4 h5
    go_wp2_with fail
    refine Calls.mono HC1.out ?_
    rintro e w3 ⟨rfl, hb3⟩
    have hsz : (secV X).size = 64 := by rw [secV_size]; exact HXL.out
    have hst := fun w1 => store_new w1 X HXL.out
    have HT3 := Lib.hid ((HT2.out.old hb3).alloc (.cells (secV X) 50))
    have hm3 := HM2.out.at (hb3.block g HM2.out.lt)
    have HM3 := Lib.hid (hm3.at (heap_alloc_old w3 (.cells (secV X) 50) hm3.lt))
    have HS3 := Lib.hid (show Sec (w3.alloc (.cells (secV X) 50)) w3.heap.size X from heap_alloc_new w3 _)
    clear hb3 a0 a1 a2 hm3
    go_upto_region 7 with fail
    clear hst hsz
    obtain ⟨w4, hw4⟩ : ∃ w4, w4 = w3.alloc (.cells (secV X) 50) := ⟨_, rfl⟩
    obtain ⟨p, hp⟩ : ∃ p, p = w3.heap.size := ⟨_, rfl⟩
    rw [← hw4, ← hp] at HS3
    rw [← hw4] at HT3 HM3 ⊢
    rw [← hp]
    clear hw4 hp
    have a0 := HT3.out.one.c0
    have a1 := HT3.out.one.c1
    have a2 := HT3.out.one.c2
    go_wp2_with fail
    refine Calls.mono (HC2.out _ HT3.out.ra) ?_
    rintro e w5 ⟨rfl, hb5⟩
    have hsz : (secV X).size = 64 := by rw [secV_size]; exact HXL.out
    have hst := fun w1 => store_new w1 X HXL.out
    have HT5 := Lib.hid ((HT3.out.old hb5).alloc (.cells (secV X) 50))
    have hm5 := HM3.out.at (hb5.block g HM3.out.lt)
    have HM5 := Lib.hid (hm5.at (heap_alloc_old w5 (.cells (secV X) 50) hm5.lt))
    have HS5 := Lib.hid ((HS3.out.old hb5).alloc (.cells (secV X) 50))
    have HR5 := Lib.hid (show Sec (w5.alloc (.cells (secV X) 50)) w5.heap.size X from heap_alloc_new w5 _)
    clear hb5 a0 a1 a2 hm5
    go_upto_region 8 with fail
    clear hst hsz
    obtain ⟨w6, hw6⟩ : ∃ w6, w6 = w5.alloc (.cells (secV X) 50) := ⟨_, rfl⟩
    obtain ⟨r, hr⟩ : ∃ r, r = w5.heap.size := ⟨_, rfl⟩
    rw [← hw6, ← hr] at HR5
    rw [← hw6] at HT5 HM5 HS5 ⊢
    rw [← hr]
    clear hw6 hr
    have a0 := HT5.out.one.c0
    have a1 := HT5.out.one.c1
    have a2 := HT5.out.one.c2
    have e1 : ∀ w, (Op.equalIn 10000 50 (.agg (secV X)) (.agg (secV X))).run Try.prog w = .ok true w := fun w => by
      have h := run_equalIn_deep' 9998 w X X HXL.out HXL.out HXS.out HXS.out
      rw [decide_eq_true rfl] at h
      exact h
    have HNU := Lib.hid (num_nil w6)
    have HKE := Lib.hid (kept_any g n cap ds A c w6 HM5.out HT5.out.ra (by omega))
    go_wp2_with (first | refine wpList_load_sec (by rfl) (.tmp 4) rfl p rfl X HXL.out HS5.out ?_ | refine wpList_load_sec (by rfl) (.tmp 6) rfl r rfl X HXL.out HR5.out ?_)
    refine Calls.mono HNU.out ?_
    rintro e w7 ⟨rfl, rfl⟩
    go_wp2_with fail
    refine Calls.mono HKE.out ?_
    rintro e w7 ⟨rfl, rfl⟩
    clear e1
    go_wp2_with (first | refine wpList_load_sec (by rfl) (.tmp 4) rfl p rfl X HXL.out HS5.out ?_)
    refine Calls.mono (open_own X HXL.out HXS.out _) ?_
    rintro e w8 ⟨ho, hb8⟩
    have HT8 := Lib.hid (HT5.out.old hb8)
    have HS8 := Lib.hid (HS5.out.old hb8)
    rcases ho with ⟨h, _⟩ | ⟨st', kd', d', A2, c2, h, rfl, hn2⟩
    · rw [HOP.out] at h; cases h
    · rw [HOP.out] at h
      cases h
      have HN8 := Lib.hid hn2
      have HLE := Lib.hid hb8.size
      clear hn2 hb8 a0 a1 a2
      obtain ⟨CX, hCX⟩ : ∃ CX, CX = Obj.cells #[.int .i64 (st : Int), .int .i64 (kd : Int), .slice A2 ds.length c2] 77 (0, 0) := ⟨_, rfl⟩
      have HCX := Lib.hid hCX
      clear hCX
      have HT8a := Lib.hid (HT8.out.alloc CX)
      have a0 := HT8a.out.one.c0
      have a1 := HT8a.out.one.c1
      have a2 := HT8a.out.one.c2
      rw [HCX.out] at a0 a1 a2
      go_wp2_with (first | refine wpList_load_sec (by rfl) (.tmp 4) rfl p rfl X HXL.out (HS8.out.alloc _) ?_)
      refine Calls.mono (isSlab_own X HXL.out HXS.out (st : Int) (kd : Int) _) ?_
      rintro e w9 ⟨hi, hb9⟩
      rw [← HCX.out] at hb9
      have hw9 := (show Below w8.heap.size w8 (w8.alloc CX) from (Below.refl _ w8).alloc (Nat.le_refl _) _).trans (hb9.mono (by rw [World.size_alloc]; omega))
      have HY9 := Lib.hid (Sl.old (show Sl (w8.alloc CX) w8.heap.size (.int .i64 (st : Int)) (.int .i64 (kd : Int)) (.slice A2 ds.length c2) by rw [HCX.out]; exact heap_alloc_new w8 _) hb9)
      have HT9 := Lib.hid (HT8.out.old hw9)
      have HN9 := Lib.hid (HN8.out.old hw9)
      have HLE9 := Lib.hid hw9.size
      have HY1 := Lib.hid (show ∀ g, A2 = some ⟨g, 0, none⟩ → g < w8.heap.size from fun g e => by
        have h5 := HN8.out
        rw [e] at h5
        exact h5.at_.2)
      rw [← HCX.out] at hi
      rcases hi with ⟨d1, A3, c3, a1', k1', h, h5, h6', rfl, hn3⟩ | ⟨h, _⟩
      · rw [HOP.out] at h
        cases h
        have HN3 := Lib.hid hn3
        have HBW := Lib.hid (show w.heap.size ≤ w6.heap.size from HT5.out.below.size)
        have HAP := Lib.hid (two_apart w6 w8 (w8.alloc CX) w9 A2 ds.length c2 ds A3 ds.length c3 ds HN9.out HY1.out hn3 (by rw [World.size_alloc]; omega) (by rw [HLD.out]; omega) (by rw [HLD.out]; omega) w.heap.size HBW.out (by rw [World.size_alloc]; have := HLE.out; have := HBW.out; omega) HT9.out.below.size)
        have HSA1 := Lib.hid (same_refl (c := c2) (c' := c) HN9.out.rdv HT9.out.ra HDS.out)
        have HSA2 := Lib.hid (same_refl (c := c3) (c' := c) hn3.rdv HT9.out.ra HDS.out)
        clear hn3 hb9 hw9 h5 h6' a0 a1 a2
        have x0 := HY9.out.c0
        have x1 := HY9.out.c1
        have x2 := HY9.out.c2
        have a0 := HT9.out.one.c0
        have a1 := HT9.out.one.c1
        have a2 := HT9.out.one.c2
        have q1 : ((st : Int) == (st : Int)) = true := by simp
        have q2 : ((kd : Int) == (kd : Int)) = true := by simp
        go_wp2_with fail
        refine Calls.mono HSA1.out ?_
        rintro e w10 ⟨rfl, rfl⟩
        go_wp2_with fail
        refine Calls.mono HSA2.out ?_
        rintro e w10 ⟨rfl, rfl⟩
        go_wp2_with fail
        refine Calls.mono HAP.out ?_
        rintro e w10 ⟨rfl, hb10⟩
        have HB10 := Lib.hid ((HT9.out.below.alloc HT9.out.below.size (.cells #[.slice A2 ds.length c2, .slice A3 ds.length c3] 45)).trans hb10)
        clear hb10
        go_wp2_with fail
        go_ret
        exact ⟨rfl, HB10.out⟩
      · exact absurd ⟨rfl, rfl⟩ (h _ _ _ HOP.out)
  · obtain ⟨q, hq, hc1, hc2⟩ := both_bad a k n hg hn
    have hq0 : q ≠ 0 := by omega
    have HC1 := Lib.hid (hc1 (some ⟨g, 0, none⟩) cap w2)
    have HC2 := Lib.hid (fun w => hc2 A c w)
    have HQ := Lib.hid hq0
    clear hc1 hc2 hq hg hq0
    go_wp2_with fail
    refine Calls.mono HC1.out ?_
    rintro e w3 ⟨rfl, hb3⟩
    have hsz : (secV (noughts 64)).size = 64 := by rw [secV_size]; exact noughts64
    have hst := fun w1 => store_new w1 (noughts 64) noughts64
    have HT3 := Lib.hid ((HT2.out.old hb3).alloc (.cells (secV (noughts 64)) 50))
    have HM3 := Lib.hid ((HM2.out.at (hb3.block g HM2.out.lt)))
    have HS3 := Lib.hid (show Sec (w3.alloc (.cells (secV (noughts 64)) 50)) w3.heap.size (noughts 64) from heap_alloc_new w3 _)
    have HM4 := Lib.hid (HM3.out.at (heap_alloc_old w3 (.cells (secV (noughts 64)) 50) HM3.out.lt))
    clear hb3 a0 a1 a2
    go_upto_region 7 with fail
    clear hst hsz
    obtain ⟨w4, hw4⟩ : ∃ w4, w4 = w3.alloc (.cells (secV (noughts 64)) 50) := ⟨_, rfl⟩
    obtain ⟨p, hp⟩ : ∃ p, p = w3.heap.size := ⟨_, rfl⟩
    rw [← hw4, ← hp] at HS3
    rw [← hw4] at HT3 HM4 ⊢
    rw [← hp]
    clear hw4 hp
    have a0 := HT3.out.one.c0
    have a1 := HT3.out.one.c1
    have a2 := HT3.out.one.c2
    go_wp2_with fail
    refine Calls.mono (HC2.out _) ?_
    rintro e w5 ⟨rfl, hb5⟩
    have hsz : (secV (noughts 64)).size = 64 := by rw [secV_size]; exact noughts64
    have hst := fun w1 => store_new w1 (noughts 64) noughts64
    have HT5 := Lib.hid ((HT3.out.old hb5).alloc (.cells (secV (noughts 64)) 50))
    have hm5 := HM4.out.at (hb5.block g HM4.out.lt)
    have HM5 := Lib.hid (hm5.at (heap_alloc_old w5 (.cells (secV (noughts 64)) 50) hm5.lt))
    have HS5 := Lib.hid ((HS3.out.old hb5).alloc (.cells (secV (noughts 64)) 50))
    have HR5 := Lib.hid (show Sec (w5.alloc (.cells (secV (noughts 64)) 50)) w5.heap.size (noughts 64) from heap_alloc_new w5 _)
    clear hb5 a0 a1 a2 hm5
    go_upto_region 8 with fail
    clear hst hsz
    obtain ⟨w6, hw6⟩ : ∃ w6, w6 = w5.alloc (.cells (secV (noughts 64)) 50) := ⟨_, rfl⟩
    obtain ⟨r, hr⟩ : ∃ r, r = w5.heap.size := ⟨_, rfl⟩
    rw [← hw6, ← hr] at HR5
    rw [← hw6] at HT5 HM5 HS5 ⊢
    rw [← hr]
    clear hw6 hr
    have a0 := HT5.out.one.c0
    have a1 := HT5.out.one.c1
    have a2 := HT5.out.one.c2
    have e1 : ∀ w, (Op.equalIn 10000 50 (.agg (secV (noughts 64))) (.agg (secV (noughts 64)))).run Try.prog w = .ok true w := fun w => by
      have h := run_equalIn_deep' 9998 w (noughts 64) (noughts 64) noughts64 noughts64 (noughts_small 64) (noughts_small 64)
      rw [decide_eq_true rfl] at h
      exact h
    have HNU := Lib.hid (num_errno q HQ.out w6)
    have HKE := Lib.hid (kept_any g n cap ds A c w6 HM5.out HT5.out.ra (by omega))
    have d2 : (q != q) = false := by simp
    have d3 : (q != 0) = true := by rw [bne_iff_ne]; exact HQ.out
    go_wp2_with (first | refine wpList_load_sec (by rfl) (.tmp 4) rfl p rfl (noughts 64) noughts64 HS5.out ?_ | refine wpList_load_sec (by rfl) (.tmp 6) rfl r rfl (noughts 64) noughts64 HR5.out ?_)
    refine Calls.mono HNU.out ?_
    rintro e w7 ⟨rfl, rfl⟩
    go_wp2_with fail
    refine Calls.mono HKE.out ?_
    rintro e w7 ⟨rfl, rfl⟩
    go_wp2_with fail
    go_ret
    exact ⟨rfl, HT5.out.below⟩
end Go.Proofs.Ytiemjgkpjmncfaa
