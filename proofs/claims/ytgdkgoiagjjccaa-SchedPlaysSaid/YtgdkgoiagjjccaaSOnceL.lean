/- SchedOnce, where all is played. -/
import Derived.Test.YtgdkgoiagjjccaaSOnce
import Derived.Deep.CutRange
namespace Go.Proofs.Ytgdkgoiagjjccaa
set_option maxRecDepth 100000
open Go.RowKit

/-- The states as far as idle ones are told. -/
def idlTo (idl : Nat → Bool) (k : Nat) : Nat → Int := fun i => if i < k ∧ idl i = true then 3 else 0
theorem idlTo_yes (idl : Nat → Bool) (k : Nat) (h : idl k = true) : upd (idlTo idl k) k 3 = idlTo idl (k + 1) := by
  funext x
  unfold upd idlTo
  by_cases e : x = k
  · subst e; simp [h]
  · have : (x < k + 1) ↔ x < k := by omega
    simp [e, this]
theorem idlTo_no (idl : Nat → Bool) (k : Nat) (h : idl k = false) : idlTo idl k = idlTo idl (k + 1) := by
  funext x
  unfold idlTo
  by_cases e : x = k
  · subst e; simp [h]
  · have : (x < k + 1) ↔ x < k := by omega
    simp [this]
theorem rem_in (z : Int) (m : Nat) (hm : 1 ≤ m ∧ m ≤ 64) : ∃ q : Nat, q < m ∧ wrap64 ((IntKind.u64.wrap z).tmod (m : Int)) = (q : Int) := by
  have h1 : 0 ≤ IntKind.u64.wrap z := by
    simp only [IntKind.wrap]
    exact Int.emod_nonneg _ (by decide)
  have b1 := Int.tmod_nonneg (m : Int) h1
  have b2 := Int.tmod_lt_of_pos (IntKind.u64.wrap z) (show (0 : Int) < m by omega)
  refine ⟨((IntKind.u64.wrap z).tmod (m : Int)).toNat, by omega, ?_⟩
  rw [IntWalk.wrap64_in _ (by omega)]
  omega
set_option maxHeartbeats 8000000 in
theorem once_main (A : Option Addr) (n c : Nat) (A2 : Option Addr) (c2 : Nat) (m : Nat) (A3 : Option Addr) (n3 c3 : Nat) (ls : List (List Int)) (bs : List Bool) (xs : List Int) (w : World) (h : Rws w A n ls) (hi : Bls w A2 n bs) (hx : Nums w A3 n3 xs)
    (hS : SmallL ls ∧ n3 ≤ 200) (h2 : n ≤ 40) (hG : GoodL ls) (hm : 1 ≤ m ∧ m ≤ 64) :
    Calls Try.prog 12 #[planV A n c A2 n c2 m, .slice A3 n3 c3] w fun e w' => e = .returned (.bool true) ∧ Below w.heap.size w w' := by
  have hb0 : Below w.heap.size w (w.alloc (.cells #[.slice A n c, .slice A2 n c2, .int .i64 (m : Int)] 69)) := (Below.refl _ w).alloc (Nat.le_refl _) _
  have HA := Lib.hid (alive21 (w.alloc (.cells #[.slice A n c, .slice A2 n c2, .int .i64 (m : Int)] 69)))
  have HH := Lib.hid h
  have HI := Lib.hid hi
  have HX := Lib.hid hx
  have HB0 := Lib.hid hb0
  have HBX := Lib.hid (heap_alloc_new w (.cells #[.slice A n c, .slice A2 n c2, .int .i64 (m : Int)] 69))
  have HSM := Lib.hid hS.1
  have hn31 : n ≤ 31 := by have := hS.1.1; have := h.1; omega
  have h200 : n3 ≤ 200 := hS.2
  have h2' : ¬ (40 : Int) < (n : Int) := by omega
  have d40 : decide ((40 : Int) < (n : Int)) = false := decide_eq_false h2'
  have HL := Lib.hid (show ∀ w', Rws w' A n ls → Calls Try.prog 41 #[.slice A n c, .slice A3 n3 c3] w' fun e w'' => e = .returned (.bool false) ∧ w' = w'' from fun w' h' => by
    have := large_any A n c A3 n3 c3 ls w' h' (by omega)
    rw [decide_eq_true hS] at this
    exact this)
  have HN := Lib.hid (show ∀ w', Rws w' A n ls → Bls w' A2 n bs → _ from fun w' h' hi' => new_ok A n c A2 c2 ls bs m w' h' hi' hG hm (by omega) (fun i => by have := hS.1.2 i; omega))
  have HINV := Lib.hid (nS_inv (fun i => bs.getD i false) ls n m hG h.1 hm.1)
  have HSUM := Lib.hid (sumK_new (fun i => bs.getD i false) ls n m)
  have hbz := leftN_le (fun i => bs.getD i false) n
  have HG := Lib.hid hG
  have mk := make_ints n (by omega)
  unfold planV
  clear h hi hx hS hb0 hG
  go_enter Try.func12, Try.ntmps12
  go_wp2_with fail
  refine Calls.mono HA.out ?_
  rintro e w1 ⟨rfl, hb1⟩
  have hx := (hb1.block w.heap.size (Array.getElem?_eq_some_iff.1 HBX.out).1).trans HBX.out
  have x0 := cell_of_row w1 _ 0 _ 69 (0, 0) hx
  have x1 := cell_of_row w1 _ 1 _ 69 (0, 0) hx
  have x2 := cell_of_row w1 _ 2 _ 69 (0, 0) hx
  simp only [List.getElem?_toArray, List.getElem?_cons_zero, List.getElem?_cons_succ] at x0 x1 x2
  have HE := Lib.hid (HB0.out.trans (hb1.mono HB0.out.size))
  have HXB := Lib.hid hx
  clear hb1 hx
  go_wp2_with fail
  refine Calls.mono (HL.out _ (HH.out.below HE.out)) ?_
  rintro e w2 ⟨rfl, rfl⟩
  go_wp2_with fail
  refine Calls.mono (HN.out _ (HH.out.below HE.out) (HI.out.below HE.out)) ?_
  rintro e w3 ⟨bp, rfl, bt, bw, sa, sc, hp, hb3⟩
  unfold ptr
  obtain ⟨s0, hs0⟩ : ∃ s, s = nS (fun i => bs.getD i false) ls n m n n 0 := ⟨_, rfl⟩
  have hsn : s0.n = n := by rw [hs0]; rfl
  have hsm : s0.m = m := by rw [hs0]; rfl
  have hsp : s0.picks = 0 := by rw [hs0]; rfl
  rw [← hs0] at hp HINV HSUM
  have HSN := Lib.hid hsn
  have HSMM := Lib.hid hsm
  have HSP := Lib.hid hsp
  have hx3 := (hb3.block w.heap.size (Array.getElem?_eq_some_iff.1 HXB.out).1).trans HXB.out
  have y0 := cell_of_row w3 _ 0 _ 69 (0, 0) hx3
  have y1 := cell_of_row w3 _ 1 _ 69 (0, 0) hx3
  have y2 := cell_of_row w3 _ 2 _ 69 (0, 0) hx3
  simp only [List.getElem?_toArray, List.getElem?_cons_zero, List.getElem?_cons_succ] at y0 y1 y2
  have hz3 : w.heap.size < w3.heap.size := (Array.getElem?_eq_some_iff.1 hx3).1
  have hlw : w.heap.size < w1.heap.size := (Array.getElem?_eq_some_iff.1 HXB.out).1
  have HO := Lib.hid (OI.start hp (HE.out.trans (hb3.mono HE.out.size)) hx3 hlw hsn)
  have HKD := Lib.hid (show s0.kd = idlTo (fun i => bs.getD i false) n by rw [hs0]; rfl)
  clear hp hb3 hs0 hsn hsm hsp hx3 HN HL HA x0 x1 x2
  go_wp2_with fail
  obtain ⟨st, hst⟩ : ∃ st, st = w3.heap.size := ⟨_, rfl⟩
  rw [← hst] at HO ⊢
  generalize World.alloc w3 _ = w4 at HO ⊢
  clear hst y0 y1 y2
  go_loopw [9, 10, 11, 52] (fun b _ _ x wr => ∃ k : Nat, x = .int .i64 (k : Int) ∧ k ≤ n ∧ b = .int .i64 (leftN (fun i => bs.getD i false) k) ∧ OI w #[.slice A n c, .slice A2 n c2, .int .i64 (m : Int)] w1.heap.size bp bt bw st sa sc s0 (idlTo (fun i => bs.getD i false) k) wr) (fun _ _ _ x _ => n - (intOf x).toNat)
  case atStart => exact ⟨0, rfl, by omega, rfl, by have := HO.out; rw [show idlTo (fun i => bs.getD i false) 0 = fun _ => 0 from by funext x; simp [idlTo]]; exact this⟩
  case round =>
    obtain ⟨k, rfl, hk, rfl, hO⟩ := hrel
    clear HO
    by_cases hlt : k < n
    · obtain ⟨b2, off2, rfl, hidl⟩ := (HI.out.below hO.below).2.2 (by omega)
      have hi1 := hidl k hlt
      have hl1 := leftN_succ (fun i => bs.getD i false) k
      have hl2 := leftN_le (fun i => bs.getD i false) k
      obtain ⟨lf, hlf⟩ : ∃ l, l = leftN (fun i => bs.getD i false) k := ⟨_, rfl⟩
      rw [← hlf] at hl1 hl2 ⊢
      cases hv : bs.getD k false with
      | true =>
        have HO1 := Lib.hid (hO.store k 3)
        have e := idlTo_yes (fun i => bs.getD i false) k hv
        rw [e] at HO1
        rw [hv] at hi1
        have cs := hO.cells k (by rw [HSN.out]; exact hlt)
        have fr := hO.free k
        have HLF := Lib.hid (show leftN (fun i => bs.getD i false) (k + 1) = lf by rw [hl1, hv]; simp)
        clear hO e hidl hl1 hlf hv
        go_wp2_with fail
        go_roundw
        case rel => exact ⟨k + 1, by go_num, by omega, by rw [HLF.out], HO1.out⟩
        case measure => simp [intOf]; omega
      | false =>
        have HO1 := Lib.hid hO
        have e := idlTo_no (fun i => bs.getD i false) k hv
        rw [e] at HO1
        rw [hv] at hi1
        have HLF := Lib.hid (show leftN (fun i => bs.getD i false) (k + 1) = lf + 1 by rw [hl1, hv]; simp)
        clear hO e hidl hl1 hlf hv
        go_wp2_with fail
        go_roundw
        case rel => exact ⟨k + 1, by go_num, by omega, by rw [HLF.out], HO1.out⟩
        case measure => simp [intOf]; omega
    · obtain rfl : k = n := by omega
      obtain ⟨bz, hbz'⟩ : ∃ b : Nat, leftN (fun i => bs.getD i false) k = (b : Int) := ⟨(leftN (fun i => bs.getD i false) k).toNat, by omega⟩
      rw [hbz'] at hbz HSUM ⊢
      rw [← HKD.out] at hO
      have HO := Lib.hid hO
      have hbk : bz ≤ 31 := by omega
      clear hO hbz'
      go_wp2_with fail
      go_loopw [12, 13, 14, 15, 17, 66] (fun _ _ _ _ _ x wr => ∃ (t : Nat) (s : PS), x = .int .i64 (t : Int) ∧ t ≤ 3 * bz ∧ Hid (Inv ls s) ∧ Hid (s.n = k ∧ s.m = m ∧ s.picks = (t : Int) ∧ sumK k s.kd = 3 * (k : Int) - 3 * (bz : Int) + t) ∧
        OI w #[.slice A k c, .slice A2 k c2, .int .i64 (m : Int)] w1.heap.size bp bt bw st sa sc s s.kd wr) (fun _ _ _ _ _ x _ => 3 * bz - (intOf x).toNat)
      case atStart => exact ⟨0, s0, rfl, by omega, HINV, ⟨HSN.out, HSMM.out, HSP.out, by rw [HSUM.out]; simp⟩, HO.out⟩
      case round =>
        obtain ⟨t, s, rfl, ht, hI, hs, hO⟩ := hrel
        clear HO
        by_cases htl : t < 3 * bz
        · have HO := Lib.hid hO
          clear hO
          go_upto_if 73 with fail
          go_cut [13] from 74 to 77 (fun v wx => ∃ z : Int, v = .int .i64 z ∧ wr = wx)
          case first =>
            by_cases hp : t < n3
            · have c := (HX.out.ext (stays_w HO.out.below)).2.2 (by omega)
              obtain ⟨b3, off3, rfl, hc⟩ := c
              have c3 := hc t hp
              clear hc
              go_wp2_with fail
              go_meet
              case rel => exact ⟨_, rfl, rfl⟩
            · go_wp2_with fail
              go_meet
              case rel => exact ⟨_, rfl, rfl⟩
          case rest =>
            obtain ⟨z, rfl, rfl⟩ := hcut
            have y2 := cell_of_row wr _ 2 _ 69 (0, 0) HO.out.box
            have y0 := cell_of_row wr _ 0 _ 69 (0, 0) HO.out.box
            simp only [List.getElem?_toArray, List.getElem?_cons_zero, List.getElem?_cons_succ] at y0 y2
            have hm0 : ((m : Int) == 0) = false := beq_eq_false_iff_ne.2 (by omega)
            have hm1 : (0 : Int) < (m : Int) := by omega
            have hm2 : (m : Int) ≤ 64 := by omega
            obtain ⟨q, hqm, hq⟩ := rem_in z m hm
            obtain ⟨hs1, hs2, hs3, hs4⟩ := hs.out
            obtain ⟨i, v, hi, hev, hkd, hk0, hk2, hlean, hpk⟩ := hI.out.pick_ev q (by rw [hs2]; exact hqm) (sumK_less s.n s.kd (by rw [hs1, hs4]; omega))
            have C := pick_any HO.out.plan hI.out (fun i => by have := HSM.out.2 i; omega) (by rw [hs3]; omega) q
            rw [hev] at C
            unfold outV evV ptr at C
            have HI2 := Lib.hid (hI.out.pick q)
            have hps := pick_picks s q
            obtain ⟨s', hs'⟩ : ∃ s', s' = (s.pick q).1 := ⟨_, rfl⟩
            rw [← hs'] at C HI2 hkd hpk hps
            obtain ⟨ke, hke⟩ : ∃ ke, ke = s.kd i + 1 := ⟨_, rfl⟩
            rw [← hke] at C hkd
            have HC := Lib.hid C
            have hik : i < k := by omega
            have hsum : sumK k s'.kd = 3 * (k : Int) - 3 * (bz : Int) + (t + 1 : Nat) := by
              rw [hkd, sumK_upd k s.kd i ke hik, hs4]; omega
            have HS2 := Lib.hid (show s'.n = k ∧ s'.m = m ∧ s'.picks = ((t + 1 : Nat) : Int) ∧ sumK k s'.kd = 3 * (k : Int) - 3 * (bz : Int) + ((t + 1 : Nat) : Int) from ⟨by rw [hps.2.2.1]; exact hs1, by rw [hps.2.2.2]; exact hs2, by rw [hpk, hs3]; omega, hsum⟩)
            have HKE := Lib.hid hke
            have HKD2 := Lib.hid hkd
            have HLEAN := Lib.hid hlean
            have ke1 : 1 ≤ ke := by omega
            have ke3 : ke ≤ 3 := by omega
            have HNN := Lib.hid (show s'.n = s.n from hps.2.2.1)
            have hi0 : (0 : Int) ≤ (i : Int) := by omega
            have hi1 : (i : Int) < (k : Int) := by omega
            clear C hs1 hs2 hs3 hs4 hev hkd hk0 hk2 hlean hpk hps hs' hke hsum hi
            go_wp2_with fail
            refine Calls.mono HC.out ?_
            rintro e w5 ⟨rfl, hp5, hf5⟩
            have hO5 := HO.out.picked hf5 hp5 HNN.out
            have HO6 := Lib.hid (hO5.alloc (.cells #[.int .i64 ke, .int .i64 (i : Int), .int .i64 v] 78))
            have HE6 := Lib.hid (heap_alloc_new w5 (.cells #[.int .i64 ke, .int .i64 (i : Int), .int .i64 v] 78))
            clear hp5 hf5 hO5 y0 y2
            go_wp2_with fail
            obtain ⟨ge, hge⟩ : ∃ g, g = w5.heap.size := ⟨_, rfl⟩
            rw [← hge] at HE6 ⊢
            generalize World.alloc w5 _ = w6 at HO6 HE6 ⊢
            clear hge
            have e0 := cell_of_row w6 _ 0 _ 78 (0, 0) HE6.out
            have e1 := cell_of_row w6 _ 1 _ 78 (0, 0) HE6.out
            simp only [List.getElem?_toArray, List.getElem?_cons_zero, List.getElem?_cons_succ] at e0 e1
            have ci := HO6.out.cells i (by rw [HNN.out, hs.out.1]; exact hik)
            rw [show s.kd i = ke - 1 by have := HKE.out; omega] at ci
            have HPK := Lib.hid (show ∀ n, Calls Try.prog 47 #[.pointer (some ⟨bp, 0, none⟩)] (w6.drewN n) fun e w' => e = .returned (.int .i64 ((t : Int) + 1)) ∧ w' = w6.drewN n from fun n => (picks_any (HO6.out.plan.drewN n)).mono fun e w' ⟨h1, h2⟩ => ⟨by rw [h1, HS2.out.2.2.1]; rfl, h2.symm⟩)
            have z1 : decide ((i : Int) < 0) = false := decide_eq_false (by omega)
            have z2 : decide ((k : Int) ≤ (i : Int)) = false := decide_eq_false (by omega)
            have z4 : ((t : Int) + 1 != (t : Int) + 1) = false := by simp
            have z5 : (ke - 1 != ke - 1) = false := by simp
            have z6 : IntKind.i64.wrap (ke - 1) = ke - 1 := IntWalk.i64_in _ (by omega)
            have z7 : IntKind.i64.wrap ((t : Int) + 1) = (t : Int) + 1 := IntWalk.i64_in _ (by omega)
            have tb : (t : Int) ≤ 200 := by omega
            clear HC
            go_quiet ((go_at_call 47; exact Calls.quiet_of_same (HPK.out _)))
            have HO7 := Lib.hid (HO6.out.drewN nq)
            have HE7 := Lib.hid (show (w6.drewN nq).heap[ge]? = some (.cells #[.int .i64 ke, .int .i64 (i : Int), .int .i64 v] 78 (0, 0)) from HE6.out)
            clear e0 e1 ci HPK z1 z2 z4 z5 z6 z7 HO6 HE6
            generalize World.drewN w6 nq = w7 at HO7 HE7 ⊢
            have e0 := cell_of_row w7 _ 0 _ 78 (0, 0) HE7.out
            have e1 := cell_of_row w7 _ 1 _ 78 (0, 0) HE7.out
            have y0 := cell_of_row w7 _ 0 _ 69 (0, 0) HO7.out.box
            simp only [List.getElem?_toArray, List.getElem?_cons_zero, List.getElem?_cons_succ] at e0 e1 y0
            have cs := HO7.out.cells i (by rw [HNN.out, hs.out.1]; exact hik)
            have fr := HO7.out.free i
            have HO8 := Lib.hid (HO7.out.store i ke)
            rw [← HKD2.out] at HO8
            by_cases hk1 : ke = 1
            · subst hk1
              obtain ⟨b, off, rfl, hrow⟩ := (HH.out.ext (stays_w HO7.out.below)).2.2 (by omega)
              obtain ⟨A', c', hc1, hnums, hLb⟩ := hrow i hik
              have HL0 := Lib.hid (HLEAN.out (by have := HKE.out; omega))
              have HMEM := Lib.hid (fun x (hx : x ∈ ls.getD i []) => HG.out.mem hx)
              obtain ⟨l, hl⟩ : ∃ l, l = ls.getD i [] := ⟨_, rfl⟩
              rw [← hl] at hc1 hnums hLb HL0 HMEM
              have HNU := Lib.hid hnums
              clear hrow hl hnums
              go_wp2_with fail
              go_loop [17, 131] (fun _ x => ∃ u : Nat, x = .int .i64 (u : Int) ∧ u ≤ l.length) (fun _ x => l.length - (intOf x).toNat)
              case atStart => exact ⟨0, rfl, by omega⟩
              case round =>
                obtain ⟨u, rfl, hu⟩ := hrel
                by_cases hul : u < l.length
                · obtain ⟨b3, off3, rfl, hc3⟩ := HNU.out.2.2 (by omega)
                  have c3 := hc3 u hul
                  have hx := HMEM.out _ (getD_mem hul)
                  have hx3 := HL0.out _ (getD_mem hul)
                  obtain ⟨j, hj⟩ : ∃ j : Nat, l.getD u 0 = (j : Int) := ⟨(l.getD u 0).toNat, by omega⟩
                  rw [hj] at c3 hx hx3
                  rw [Int.toNat_natCast] at hx3
                  have cj := HO7.out.cells j (by rw [HNN.out, hs.out.1]; omega)
                  rw [hx3] at cj
                  have hjk : (j : Int) < (k : Int) := by omega
                  clear hc3 hj hx3
                  go_wp2_with fail
                  go_round
                  case rel => exact ⟨u + 1, by go_num, by omega⟩
                  case measure => simp [intOf]; omega
                · obtain rfl : u = l.length := by omega
                  go_wp2_with fail
                  go_roundw
                  case rel => exact ⟨t + 1, s', by go_num, by omega, HI2, HS2, HO8.out⟩
                  case measure => simp [intOf]; omega
            · have ne1 : (ke == 1) = false := beq_eq_false_iff_ne.2 hk1
              go_wp2_with fail
              go_roundw
              case rel => exact ⟨t + 1, s', by go_num, by omega, HI2, HS2, HO8.out⟩
              case measure => simp [intOf]; omega
        · obtain rfl : t = 3 * bz := by omega
          obtain ⟨hs1, hs2, hs3, hs4⟩ := hs.out
          have hall : ∀ i, i < s.n → s.kd i = 3 := sumK_full s.n s.kd (fun i hi => (hI.out.kd i hi).2) (by rw [hs1, hs4]; omega)
          have he := hI.out.pick_end 0 (by rw [hs2]; omega) hall
          have C := pick_any hO.plan hI.out (fun i => by have := HSM.out.2 i; omega) (by rw [hs3]; omega) (0 : Nat)
          rw [he] at C
          unfold outV evV errV ptr at C
          have HC := Lib.hid C
          have HL0 := Lib.hid (hI.out.left_end hall)
          have HALL := Lib.hid hall
          have HO := Lib.hid hO
          have HRD := Lib.hid (show rdyTo s s.n = [] from by
            unfold rdyTo
            rw [List.filter_eq_nil_iff.2 (by intro x hx; simp [PS.rdy, hall x (List.mem_range.1 hx)])]
            rfl)
          have HIS := Lib.hid (is_err 12 12 (by decide))
          unfold errV at HIS
          have HS1 := Lib.hid hs1
          clear C hs1 hs2 hs3 hs4 hall he hO
          go_wp2_with fail
          refine Calls.mono HC.out ?_
          rintro e w5 ⟨rfl, hp5, hf5⟩
          have HO5 := Lib.hid (HO.out.picked hf5 hp5 rfl)
          clear hp5 hf5 HC
          go_wp2_with fail
          go_loop [19, 155] (fun _ x => ∃ u : Nat, x = .int .i64 (u : Int) ∧ u ≤ k) (fun _ x => k - (intOf x).toNat)
          case atStart => exact ⟨0, rfl, by omega⟩
          case round =>
            obtain ⟨u, rfl, hu⟩ := hrel
            by_cases huk : u < k
            · have cu := HO5.out.cells u (by rw [HS1.out]; exact huk)
              rw [HALL.out u (by rw [HS1.out]; exact huk)] at cu
              go_wp2_with fail
              go_round
              case rel => exact ⟨u + 1, by go_num, by omega⟩
              case measure => simp [intOf]; omega
            · obtain rfl : u = k := by omega
              have C1 := done_any HO5.out.plan
              have C2 := left_any HO5.out.plan
              have C3 := ready_any' HO5.out.plan
              rw [HL0.out] at C1 C2
              rw [HRD.out] at C3
              unfold ptr at C1 C2 C3
              have HC1 := Lib.hid C1
              have HC2 := Lib.hid C2
              have HC3 := Lib.hid C3
              clear C1 C2 C3
              go_wp2_with fail
              refine Calls.mono HC1.out ?_
              rintro e w6 ⟨rfl, rfl⟩
              go_wp2_with fail
              refine Calls.mono HC2.out ?_
              rintro e w6 ⟨rfl, rfl⟩
              go_wp2_with fail
              refine Calls.mono HC3.out ?_
              rintro e w6 ⟨v, rfl, A9, c9, rfl, _, hb6⟩
              have HB6 := Lib.hid (HO5.out.below.trans (hb6.mono HO5.out.below.size))
              clear hb6
              go_wp2_with fail
              refine Calls.mono (HIS.out _) ?_
              rintro e w7 ⟨rfl, rfl⟩
              go_wp2_with fail
              go_ret
              exact ⟨rfl, HB6.out⟩
end Go.Proofs.Ytgdkgoiagjjccaa
