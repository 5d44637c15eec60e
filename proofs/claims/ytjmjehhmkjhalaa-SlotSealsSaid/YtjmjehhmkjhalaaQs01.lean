/- SlRefS: put together. -/
import Derived.Test.YtjmjehhmkjhalaaQb40
import Derived.Test.YtjmjehhmkjhalaaQb37
import Derived.Test.YtjmjehhmkjhalaaQb28
/- The document's Seal of a manifest. Written by gen_slrefs.py. -/
namespace Go.Proofs.Ytjmjehhmkjhalaa
set_option maxRecDepth 100000
open Go.RowKit

theorem resRS {w : World} {g : Nat} {l : List Nat} (h : Sec w g l) (hl : l.length = 64) (tmps : Array Value) (h2 : tmps.getD 2 undef = .pointer (some ⟨g, 0, none⟩)) :
    (results Try.f55 tmps).run Try.prog w = .ok (.agg (secV l)) w := by
  have h2' : tmps[2]?.getD undef = .pointer (some ⟨g, 0, none⟩) := by simpa using h2
  have hl := load_sec h hl
  have e : Try.f55.results = #[.cell 2 75] := Try.results55
  simp only [results, e]
  simp [asAddr, h2', hl]
theorem rdv_alloc {w : World} {A : Option Addr} {n s : Nat} {ys : List Value} (h : Rdv w A n s ys) (o : Obj) : Rdv (w.alloc o) A n s ys := h.ext (stays_b ((Below.refl _ w).alloc (Nat.le_refl _) o))
theorem sec_new0 (w : World) : Sec (w.alloc (.cells #[.int .u8 0, .int .u8 0, .int .u8 0, .int .u8 0, .int .u8 0, .int .u8 0, .int .u8 0, .int .u8 0, .int .u8 0, .int .u8 0, .int .u8 0, .int .u8 0, .int .u8 0, .int .u8 0, .int .u8 0, .int .u8 0, .int .u8 0, .int .u8 0, .int .u8 0, .int .u8 0, .int .u8 0, .int .u8 0, .int .u8 0, .int .u8 0, .int .u8 0, .int .u8 0, .int .u8 0, .int .u8 0, .int .u8 0, .int .u8 0, .int .u8 0, .int .u8 0, .int .u8 0, .int .u8 0, .int .u8 0, .int .u8 0, .int .u8 0, .int .u8 0, .int .u8 0, .int .u8 0, .int .u8 0, .int .u8 0, .int .u8 0, .int .u8 0, .int .u8 0, .int .u8 0, .int .u8 0, .int .u8 0, .int .u8 0, .int .u8 0, .int .u8 0, .int .u8 0, .int .u8 0, .int .u8 0, .int .u8 0, .int .u8 0, .int .u8 0, .int .u8 0, .int .u8 0, .int .u8 0, .int .u8 0, .int .u8 0, .int .u8 0, .int .u8 0] 75)) w.heap.size (noughts 64) := by
  rw [zeros_sec]
  exact heap_alloc_new w _
/-- The world of the document's Seal: the manifest, the result. -/
structure MrW (w W : World) (cs : Array Value) : Prop where
  mf : W.heap[w.heap.size]? = some (.cells cs 91 (0, 0))
  res : Sec W (w.heap.size + 1) (noughts 64)
  below : Below w.heap.size w W
  size : w.heap.size + 2 ≤ W.heap.size
theorem mrW_new (w : World) (cs : Array Value) : MrW w ((w.alloc (.cells cs 91)).alloc (.cells (secV (noughts 64)) 75)) cs where
  mf := (heap_alloc_old _ _ (by simp)).trans (heap_alloc_new w _)
  res := heap_alloc2_new w _ _
  below := ((Below.refl _ w).alloc (Nat.le_refl _) _).alloc (by simp) _
  size := by simp
theorem MrW.old {w W W' : World} {cs : Array Value} (h : MrW w W cs) (hb : Below W.heap.size W W') : MrW w W' cs :=
  ⟨(hb.block _ (by have := h.size; omega)).trans h.mf, h.res.old hb, h.below.trans (hb.mono h.below.size), Nat.le_trans h.size hb.size⟩
theorem MrW.grown {w W W' : World} {cs : Array Value} (h : MrW w W cs) {r : Option Nat} (hg : W.grownBy W' r) (hr : ∀ k, r = some k → w.heap.size + 2 ≤ k) : MrW w W' cs := by
  have hs := h.size
  have key : ∀ k, k < w.heap.size + 2 → W'.heap[k]? = W.heap[k]? := fun k hk => hg.block k (by omega) fun e => by have := hr k e.symm; omega
  exact ⟨(key _ (by omega)).trans h.mf, (key _ (by omega)).trans h.res, ⟨hg.os.trans h.below.os, hg.tape.trans h.below.tape, hg.output.trans h.below.output, Nat.le_trans h.below.size hg.size, fun k hk => (key k (by omega)).trans (h.below.block k hk)⟩, Nat.le_trans h.size hg.size⟩
theorem MrW.put {w W : World} {cs : Array Value} (h : MrW w W cs) (g : Nat) (hg : w.heap.size + 2 ≤ g) (c : Array Value) : MrW w (W.setRow g c) cs :=
  ⟨(setRow_other W g _ c (by omega)).trans h.mf, (setRow_other W g _ c (by omega)).trans h.res, below_setRow h.below (by omega) _, by have := h.size; rw [size_setRow]; exact this⟩
/-- The manifest's block, the result and the bytes so far. -/
structure RsI (w W : World) (cs : Array Value) (v : Value) (xs : List Nat) : Prop where
  m : MrW w W cs
  own : OwnB W (w.heap.size + 2) v xs
theorem RsI.old {w W W' : World} {cs : Array Value} {v : Value} {xs : List Nat} (h : RsI w W cs v xs) (hb : Below W.heap.size W W') : RsI w W' cs v xs :=
  ⟨h.m.old hb, own_keep h.own fun q hq => hb.block q (h.own.lt q hq).2⟩
theorem RsI.app {w W W' : World} {cs : Array Value} {v v' : Value} {xs ys : List Nat} (h : RsI w W cs v xs) (ho : OwnB W' (w.heap.size + 2) v' ys) (ht : Touch W W' W'.heap.size v.ownBlock) : RsI w W' cs v' ys := by
  have hs := h.m.size
  have key : ∀ k, k < w.heap.size + 2 → W'.heap[k]? = W.heap[k]? := fun k hk => ht.block k (by omega) (by have := ht.size; omega) fun e => by have := (h.own.lt k e).1; omega
  exact ⟨⟨(key _ (by omega)).trans h.m.mf, (key _ (by omega)).trans h.m.res, ⟨ht.os.trans h.m.below.os, ht.tape.trans h.m.below.tape, ht.output.trans h.m.below.output, Nat.le_trans h.m.below.size ht.size, fun k hk => (key k (by omega)).trans (h.m.below.block k hk)⟩, Nat.le_trans hs ht.size⟩, ho⟩
set_option maxHeartbeats 8000000 in
theorem drefseal_nat (g ep b a l : Nat) (hs : List Nat) (A : Option Addr) (c : Nat) (w : World) (h : Zs w A (hs.map fun n : Nat => (n : Int))) (hg : GoodM (natM g ep b a l hs)) :
    Calls Try.prog 55 #[.agg #[.int .i64 (g : Int), .int .i64 (ep : Int), .int .i64 (b : Int), .int .i64 (a : Int), .int .i64 (l : Int), .slice A hs.length c]] w fun e w' => e = .returned (.agg (secV (secM (natM g ep b a l hs)))) ∧ Below w.heap.size w w' := by
  have hgl : (natM g ep b a l hs).heads.length = hs.length := by simp [natM]
  have hk4 : hs.length ≤ 4 := by rw [← hgl]; exact hg.h2
  have hnum : ep < 18446744073709551616 ∧ b < 18446744073709551616 ∧ a < 18446744073709551616 ∧ l < 18446744073709551616 ∧ 1 ≤ g ∧ g ≤ 17179869183 := by
    obtain ⟨g1, g2, e1, e2, b1, b2, a1, a2, l1, l2, _, _, _⟩ := hg
    simp only [natM] at g1 g2 e1 e2 b1 b2 a1 a2 l1 l2
    omega
  have hhs : ∀ n ∈ hs, n < 4294967296 := fun n hn => by
    have := hg.hs (n : Int) (List.mem_map_of_mem (f := fun n : Nat => (n : Int)) hn)
    omega
  have HENC := Lib.hid (enc_nat g ep b a l hs)
  have HEL := Lib.hid (encM_len hg)
  have HES := Lib.hid (encM_small (natM g ep b a l hs))
  have HSM := Lib.hid (show secM (natM g ep b a l hs) = sealN g 3 (encM (natM g ep b a l hs)) from rfl)
  have HSL := Lib.hid (secM_len hg)
  have hW := mrW_new w #[.int .i64 (g : Int), .int .i64 (ep : Int), .int .i64 (b : Int), .int .i64 (a : Int), .int .i64 (l : Int), .slice A hs.length c]
  have HH := Lib.hid h
  have HN := Lib.hid hnum
  have HHS := Lib.hid hhs
  obtain ⟨k, hk⟩ : ∃ k, k = hs.length := ⟨_, rfl⟩
  rw [← hk] at hk4 HENC hW ⊢
  have HK := Lib.hid hk
  obtain ⟨S, hS⟩ : ∃ S, S = secM (natM g ep b a l hs) := ⟨_, rfl⟩
  rw [← hS] at HSM HSL ⊢
  obtain ⟨X, hX⟩ : ∃ X, X = encM (natM g ep b a l hs) := ⟨_, rfl⟩
  rw [← hX] at HENC HEL HSM HES
  have HW := Lib.hid hW
  have hsh : ∀ n ∈ hs, n < 18446744073709551616 := fun n hn => by have := HHS.out n hn; omega
  have HLH := Lib.hid (show ∀ q, q ≤ k → (cntsN (hs.take q)).length ≤ 40 from fun q hq => by
    have := cntsN_len (hs.take q) (fun n hn => hsh n (List.mem_of_mem_take hn))
    rw [List.length_take] at this
    omega)
  have HL5 := Lib.hid (show (cntN ep).length ≤ 10 ∧ (cntN b).length ≤ 10 ∧ (cntN a).length ≤ 10 ∧ (cntN l).length ≤ 10 ∧ (cntN k).length ≤ 10 from ⟨(cntN_length _ hnum.1).2, (cntN_length _ hnum.2.1).2, (cntN_length _ hnum.2.2.1).2, (cntN_length _ hnum.2.2.2.1).2, (cntN_length _ (by omega)).2⟩)
  have HC1 := Lib.hid (fun W => refCount_any ep hnum.1 W)
  have HC2 := Lib.hid (fun W => refCount_any b hnum.2.1 W)
  have HC3 := Lib.hid (fun W => refCount_any a hnum.2.2.1 W)
  have HC4 := Lib.hid (fun W => refCount_any l hnum.2.2.2.1 W)
  have HC5 := Lib.hid (fun W => refCount_any k (by omega) W)
  have e1 : IntKind.u64.wrap (ep : Int) = (ep : Int) := by rw [IntKind.wrap_u64]; omega
  have e2 : IntKind.u64.wrap (b : Int) = (b : Int) := by rw [IntKind.wrap_u64]; omega
  have e3 : IntKind.u64.wrap (a : Int) = (a : Int) := by rw [IntKind.wrap_u64]; omega
  have e4 : IntKind.u64.wrap (l : Int) = (l : Int) := by rw [IntKind.wrap_u64]; omega
  have e5 : IntKind.u64.wrap (k : Int) = (k : Int) := by rw [IntKind.wrap_u64]; omega
  clear hg h hnum hhs hk hS hX hW hgl hsh
  go_enter Try.func55, Try.ntmps55
  go_upto_region 1 with (fail)
  rw [zeros_sec]
  obtain ⟨w1, hw1⟩ : ∃ w1, w1 = (w.alloc (.cells #[.int .i64 (g : Int), .int .i64 (ep : Int), .int .i64 (b : Int), .int .i64 (a : Int), .int .i64 (l : Int), .slice A k c] 91)).alloc (.cells (secV (noughts 64)) 75) := ⟨_, rfl⟩
  rw [← hw1] at HW ⊢
  clear hw1
  have k1 := (cell_of_row _ _ 1 _ _ (0, 0) HW.out.mf).trans rfl
  go_wp2_with fail
  refine Calls.mono (HC1.out w1) ?_
  rintro e w2 ⟨v, rfl, ho2, hb2⟩
  obtain ⟨A1, c1, rfl, _⟩ := ho2.rdv
  have HR1 : Hid (RsI w w2 #[.int .i64 (g : Int), .int .i64 (ep : Int), .int .i64 (b : Int), .int .i64 (a : Int), .int .i64 (l : Int), .slice A k c] (.slice A1 (cntN ep).length c1) (cntN ep)) := Lib.hid ⟨HW.out.old hb2, own_lower ho2 HW.out.size⟩
  clear ho2 hb2 k1 HC1
  obtain ⟨n1, hn1⟩ : ∃ n, n = (cntN ep).length := ⟨_, rfl⟩
  rw [← hn1] at HR1 ⊢
  have HNN1 := Lib.hid hn1
  clear hn1
  have k2 := (cell_of_row _ _ 2 _ _ (0, 0) HR1.out.m.mf).trans rfl
  go_wp2_with fail
  refine Calls.mono (HC2.out _) ?_
  rintro e wa ⟨v, rfl, ho, hb⟩
  obtain ⟨Aq, cq, rfl, hrq, hnq, _⟩ := ho.rdv
  have HRQ := Lib.hid (HR1.out.old hb)
  have HAQ := Lib.hid (And.intro hrq hnq)
  clear ho hb hrq hnq k2
  go_wp2_with (at_builtin; (refine wpList_appB rfl (.tmp 11) (.tmp 15) rfl (w.heap.size + 2) _ (cntN ep) rfl HRQ.out.own Aq _ cq (cntN b) rfl HAQ.out.1 HAQ.out.2 (by have := HL5.out; first | omega | (simp only [List.length_append]; omega)) HRQ.out.m.size ?_); intro v3 wb ho _ ht _; obtain ⟨A2, c2, e9, _⟩ := ho.rdv; obtain ⟨n2, hn2⟩ : ∃ n, n = (cntN ep ++ cntN b).length := ⟨_, rfl⟩; rw [← hn2] at e9; subst e9; have HNN2 := Lib.hid hn2; have HR2 := Lib.hid (HRQ.out.app ho ht); have q3 := (cell_of_row _ _ 3 _ _ (0, 0) HR2.out.m.mf).trans rfl; clear ho ht hn2)
  have k3 := (cell_of_row _ _ 3 _ _ (0, 0) HR2.out.m.mf).trans rfl
  go_wp2_with fail
  refine Calls.mono (HC3.out _) ?_
  rintro e wa ⟨v, rfl, ho, hb⟩
  obtain ⟨Aq, cq, rfl, hrq, hnq, _⟩ := ho.rdv
  have HRQ := Lib.hid (HR2.out.old hb)
  have HAQ := Lib.hid (And.intro hrq hnq)
  clear ho hb hrq hnq k3
  go_wp2_with (at_builtin; (refine wpList_appB rfl (.tmp 17) (.tmp 21) rfl (w.heap.size + 2) _ (cntN ep ++ cntN b) rfl HRQ.out.own Aq _ cq (cntN a) rfl HAQ.out.1 HAQ.out.2 (by have := HL5.out; first | omega | (simp only [List.length_append]; omega)) HRQ.out.m.size ?_); intro v3 wb ho _ ht _; obtain ⟨A3, c3, e9, _⟩ := ho.rdv; obtain ⟨n3, hn3⟩ : ∃ n, n = (cntN ep ++ cntN b ++ cntN a).length := ⟨_, rfl⟩; rw [← hn3] at e9; subst e9; have HNN3 := Lib.hid hn3; have HR3 := Lib.hid (HRQ.out.app ho ht); have q4 := (cell_of_row _ _ 4 _ _ (0, 0) HR3.out.m.mf).trans rfl; clear ho ht hn3)
  have k4 := (cell_of_row _ _ 4 _ _ (0, 0) HR3.out.m.mf).trans rfl
  go_wp2_with fail
  refine Calls.mono (HC4.out _) ?_
  rintro e wa ⟨v, rfl, ho, hb⟩
  obtain ⟨Aq, cq, rfl, hrq, hnq, _⟩ := ho.rdv
  have HRQ := Lib.hid (HR3.out.old hb)
  have HAQ := Lib.hid (And.intro hrq hnq)
  clear ho hb hrq hnq k4
  go_wp2_with (at_builtin; (refine wpList_appB rfl (.tmp 23) (.tmp 27) rfl (w.heap.size + 2) _ (cntN ep ++ cntN b ++ cntN a) rfl HRQ.out.own Aq _ cq (cntN l) rfl HAQ.out.1 HAQ.out.2 (by have := HL5.out; first | omega | (simp only [List.length_append]; omega)) HRQ.out.m.size ?_); intro v3 wb ho _ ht _; obtain ⟨A4, c4, e9, _⟩ := ho.rdv; obtain ⟨n4, hn4⟩ : ∃ n, n = (cntN ep ++ cntN b ++ cntN a ++ cntN l).length := ⟨_, rfl⟩; rw [← hn4] at e9; subst e9; have HNN4 := Lib.hid hn4; have HR4 := Lib.hid (HRQ.out.app ho ht); have q5 := (cell_of_row _ _ 5 _ _ (0, 0) HR4.out.m.mf).trans rfl; clear ho ht hn4)
  have k5 := (cell_of_row _ _ 5 _ _ (0, 0) HR4.out.m.mf).trans rfl
  go_wp2_with fail
  refine Calls.mono (HC5.out _) ?_
  rintro e wa ⟨v, rfl, ho, hb⟩
  obtain ⟨Aq, cq, rfl, hrq, hnq, _⟩ := ho.rdv
  have HRQ := Lib.hid (HR4.out.old hb)
  have HAQ := Lib.hid (And.intro hrq hnq)
  clear ho hb hrq hnq k5
  go_wp2_with (at_builtin; (refine wpList_appB rfl (.tmp 29) (.tmp 34) rfl (w.heap.size + 2) _ (cntN ep ++ cntN b ++ cntN a ++ cntN l) rfl HRQ.out.own Aq _ cq (cntN k) rfl HAQ.out.1 HAQ.out.2 (by have := HL5.out; first | omega | (simp only [List.length_append]; omega)) HRQ.out.m.size ?_); intro v3 wb ho _ ht _; obtain ⟨A5, c5, e9, _⟩ := ho.rdv; obtain ⟨n5, hn5⟩ : ∃ n, n = (cntN ep ++ cntN b ++ cntN a ++ cntN l ++ cntN k).length := ⟨_, rfl⟩; rw [← hn5] at e9; subst e9; have HNN5 := Lib.hid hn5; have HR5 := Lib.hid (HRQ.out.app ho ht); have q6 := (cell_of_row _ _ 5 _ _ (0, 0) HR5.out.m.mf).trans rfl; clear ho ht hn5)
  obtain ⟨Y, hY⟩ : ∃ Y, Y = cntN ep ++ cntN b ++ cntN a ++ cntN l ++ cntN k := ⟨_, rfl⟩
  rw [← hY] at HR5 HNN5
  have HYL := Lib.hid (show Y.length ≤ 50 by rw [hY]; have := HL5.out; simp only [List.length_append]; omega)
  have HYX : Hid (X = Y ++ cntsN hs ++ [77]) := Lib.hid (by rw [HENC.out, hY, HK.out]; simp [cntsN, fiveN, List.append_assoc])
  clear hY HENC HC2 HC3 HC4 HC5 e1 e2 e3 e4 e5
  clear HNN1 HNN2 HNN3 HNN4 HR1 HR2 HR3 HR4 q3 q4 q5 q6
  have HS0 := Lib.hid (show Hid (n5 = (Y ++ cntsN (hs.take 0)).length) ∧ RsI w wb #[.int .i64 (g : Int), .int .i64 (ep : Int), .int .i64 (b : Int), .int .i64 (a : Int), .int .i64 (l : Int), .slice A k c] (.slice A5 n5 c5) (Y ++ cntsN (hs.take 0)) from by
    have e9 : Y ++ cntsN (hs.take 0) = Y := by simp [cntsN]
    rw [e9]
    exact ⟨Lib.hid HNN5.out, HR5.out⟩)
  go_loopw [3, 4] (fun v i wr => ∃ (q n9 c9 : Nat) (A9 : Option Addr), v = .slice A9 n9 c9 ∧ i = .int .i64 (q : Int) ∧ q ≤ k ∧ Hid (n9 = (Y ++ cntsN (hs.take q)).length) ∧ RsI w wr #[.int .i64 (g : Int), .int .i64 (ep : Int), .int .i64 (b : Int), .int .i64 (a : Int), .int .i64 (l : Int), .slice A k c] (.slice A9 n9 c9) (Y ++ cntsN (hs.take q))) (fun _ i _ => k - (intOf i).toNat)
  case atStart => exact ⟨0, n5, c5, A5, rfl, rfl, by omega, HS0.out.1, HS0.out.2⟩
  case round =>
    obtain ⟨q, n9, c9, A9, rfl, rfl, hq, hn9, hI⟩ := hrel
    have HI := Lib.hid hI
    clear hI
    have k5 := (cell_of_row _ _ 5 _ _ (0, 0) HI.out.m.mf).trans rfl
    by_cases hlt : q < k
    · have hql : q < hs.length := by rw [← HK.out]; exact hlt
      obtain ⟨x, hx⟩ : ∃ x, x = hs[q] := ⟨_, rfl⟩
      have hzs : Zs wr A (hs.map fun n : Nat => (n : Int)) := RowAt.below HH.out HI.out.m.below
      obtain ⟨b9, o9, rfl, hc9⟩ := zs_cells hzs (by rw [List.length_map]; omega)
      have hc : wr.cell? ⟨b9, o9 + q, none⟩ = some (.int .i64 (x : Int)) := by
        have := hc9 q (by rw [List.length_map]; exact hql)
        rw [List.getElem_map, ← hx] at this
        exact this
      have hx32 := HHS.out x (by rw [hx]; exact List.getElem_mem hql)
      have e1 : IntKind.u64.wrap (x : Int) = (x : Int) := by rw [IntKind.wrap_u64]; omega
      have HCO := Lib.hid (refCount_any x (by omega) wr)
      have HXL := Lib.hid (cntN_length x (by omega)).2
      have hxt := cntsN_take hs q hql
      rw [← hx] at hxt
      have HXT := Lib.hid (show Y ++ cntsN (hs.take (q + 1)) = Y ++ cntsN (hs.take q) ++ cntN x by rw [hxt, List.append_assoc])
      clear hx hxt hx32 hc9 hzs
      go_wp2_with fail
      refine Calls.mono HCO.out ?_
      rintro e w2 ⟨v, rfl, ho, hb⟩
      obtain ⟨Aq, cq, rfl, hrq, hnq, _⟩ := ho.rdv
      have HRQ := Lib.hid (HI.out.old hb)
      have HAQ := Lib.hid (And.intro hrq hnq)
      clear ho hb hrq hnq k5
      go_wp2_with (at_builtin; refine wpList_appB rfl (.tmp 43) (.tmp 50) rfl (w.heap.size + 2) _ (Y ++ cntsN (hs.take q)) rfl HRQ.out.own Aq _ cq (cntN x) rfl HAQ.out.1 HAQ.out.2 (by have h1 := HYL.out; have h2 := HLH.out q hq; have h3 := HXL.out; rw [List.length_append]; omega) HRQ.out.m.size ?_; intro v3 wb ho _ ht _; rw [← HXT.out] at ho; obtain ⟨A7, c7, e9, _⟩ := ho.rdv; obtain ⟨n7, hn7⟩ : ∃ n, n = (Y ++ cntsN (hs.take (q + 1))).length := ⟨_, rfl⟩; rw [← hn7] at e9; subst e9; have HN7 := Lib.hid hn7; have HR7 := Lib.hid (HRQ.out.app ho ht); clear ho ht hn7)
      go_roundw
      case rel => exact ⟨q + 1, n7, c7, A7, rfl, by go_num, by omega, HN7, HR7.out⟩
      case measure => simp [intOf]; omega
    · have dq : decide (q < k) = false := decide_eq_false hlt
      have HQK := Lib.hid (show q = k by omega)
      obtain ⟨X0, hX0⟩ : ∃ X0, X0 = Y ++ cntsN (hs.take q) := ⟨_, rfl⟩
      rw [← hX0] at HI hn9
      have HX0 : Hid (X = X0 ++ [77]) := Lib.hid (by rw [HYX.out, hX0, HQK.out, HK.out, List.take_length])
      have HN9 := Lib.hid (show n9 = X0.length ∧ n9 ≤ 90 from ⟨hn9.out, by rw [hn9.out, hX0, List.length_append]; have h1 := HYL.out; have h2 := HLH.out q hq; omega⟩)
      clear hX0 hn9 hlt
      go_upto_region 10 with (fail)
      clear dq k5
      -- the region of the last append
      have hbb : ∀ W, Below wr.heap.size wr W → RsI w W #[.int .i64 (g : Int), .int .i64 (ep : Int), .int .i64 (b : Int), .int .i64 (a : Int), .int .i64 (l : Int), .slice A k c] (.slice A9 n9 c9) X0 := fun W hb => HI.out.old hb
      have HBB := Lib.hid hbb
      have hown : ∀ W, Below wr.heap.size wr W → W.ownsRow (w.heap.size + 2) 5 1 (.slice A9 n9 c9) n9 (valsB X0) := fun W hb => by
        have := (hbb W hb).own
        unfold OwnB at this
        rw [← HN9.out.1] at this
        exact this
      have HOWN := Lib.hid hown
      have HSEAL := Lib.hid (fun (W : World) (A' : Option Addr) (c' : Nat) (hr : Rdv W A' (n9 + 1) 1 (valsB X)) => refSeal_ok g 3 A' (n9 + 1) c' X W (by have := HN.out; omega) (by have := HN.out; omega) (by decide) (by decide) (by have h1 := HEL.out; have h2 := HN9.out.1; have h3 := HX0.out; rw [h3, List.length_append] at h1; simp at h1; omega) hr HES.out)
      rw [← HSM.out] at HSEAL
      have b0 : Below wr.heap.size wr wr.drew := (Below.refl _ _).drew
      have b1 : Below wr.heap.size wr (wr.alloc (.cells #[.int .u8 77] 5)).drew := ((Below.refl _ _).alloc (Nat.le_refl _) _).drew
      have b2 : Below wr.heap.size wr (wr.alloc (.cells #[.int .u8 0, .int .u8 0, .int .u8 0, .int .u8 0, .int .u8 0, .int .u8 0, .int .u8 0, .int .u8 0, .int .u8 0, .int .u8 0, .int .u8 0, .int .u8 0, .int .u8 0, .int .u8 0, .int .u8 0, .int .u8 0, .int .u8 0, .int .u8 0, .int .u8 0, .int .u8 0, .int .u8 0, .int .u8 0, .int .u8 0, .int .u8 0, .int .u8 0, .int .u8 0, .int .u8 0, .int .u8 0, .int .u8 0, .int .u8 0, .int .u8 0, .int .u8 0, .int .u8 0, .int .u8 0, .int .u8 0, .int .u8 0, .int .u8 0, .int .u8 0, .int .u8 0, .int .u8 0, .int .u8 0, .int .u8 0, .int .u8 0, .int .u8 0, .int .u8 0, .int .u8 0, .int .u8 0, .int .u8 0, .int .u8 0, .int .u8 0, .int .u8 0, .int .u8 0, .int .u8 0, .int .u8 0, .int .u8 0, .int .u8 0, .int .u8 0, .int .u8 0, .int .u8 0, .int .u8 0, .int .u8 0, .int .u8 0, .int .u8 0, .int .u8 0] 75)).drew := ((Below.refl _ _).alloc (Nat.le_refl _) _).drew
      have b3 : Below wr.heap.size wr ((wr.alloc (.cells #[.int .u8 0, .int .u8 0, .int .u8 0, .int .u8 0, .int .u8 0, .int .u8 0, .int .u8 0, .int .u8 0, .int .u8 0, .int .u8 0, .int .u8 0, .int .u8 0, .int .u8 0, .int .u8 0, .int .u8 0, .int .u8 0, .int .u8 0, .int .u8 0, .int .u8 0, .int .u8 0, .int .u8 0, .int .u8 0, .int .u8 0, .int .u8 0, .int .u8 0, .int .u8 0, .int .u8 0, .int .u8 0, .int .u8 0, .int .u8 0, .int .u8 0, .int .u8 0, .int .u8 0, .int .u8 0, .int .u8 0, .int .u8 0, .int .u8 0, .int .u8 0, .int .u8 0, .int .u8 0, .int .u8 0, .int .u8 0, .int .u8 0, .int .u8 0, .int .u8 0, .int .u8 0, .int .u8 0, .int .u8 0, .int .u8 0, .int .u8 0, .int .u8 0, .int .u8 0, .int .u8 0, .int .u8 0, .int .u8 0, .int .u8 0, .int .u8 0, .int .u8 0, .int .u8 0, .int .u8 0, .int .u8 0, .int .u8 0, .int .u8 0, .int .u8 0] 75)).alloc (.cells #[.int .u8 77] 5)).drew := (((Below.refl _ _).alloc (Nat.le_refl _) _).alloc (by simp) _).drew
      have b4 : Below wr.heap.size wr ((wr.alloc (.cells #[.int .u8 77] 5)).alloc (.cells #[.int .u8 0, .int .u8 0, .int .u8 0, .int .u8 0, .int .u8 0, .int .u8 0, .int .u8 0, .int .u8 0, .int .u8 0, .int .u8 0, .int .u8 0, .int .u8 0, .int .u8 0, .int .u8 0, .int .u8 0, .int .u8 0, .int .u8 0, .int .u8 0, .int .u8 0, .int .u8 0, .int .u8 0, .int .u8 0, .int .u8 0, .int .u8 0, .int .u8 0, .int .u8 0, .int .u8 0, .int .u8 0, .int .u8 0, .int .u8 0, .int .u8 0, .int .u8 0, .int .u8 0, .int .u8 0, .int .u8 0, .int .u8 0, .int .u8 0, .int .u8 0, .int .u8 0, .int .u8 0, .int .u8 0, .int .u8 0, .int .u8 0, .int .u8 0, .int .u8 0, .int .u8 0, .int .u8 0, .int .u8 0, .int .u8 0, .int .u8 0, .int .u8 0, .int .u8 0, .int .u8 0, .int .u8 0, .int .u8 0, .int .u8 0, .int .u8 0, .int .u8 0, .int .u8 0, .int .u8 0, .int .u8 0, .int .u8 0, .int .u8 0, .int .u8 0] 75)).drew := (((Below.refl _ _).alloc (Nat.le_refl _) _).alloc (by simp) _).drew
      have x0 := (cell_of_row _ _ 0 _ _ (0, 0) (hbb _ b0).m.mf).trans rfl
      have x1 := (cell_of_row _ _ 0 _ _ (0, 0) (hbb _ b1).m.mf).trans rfl
      have x2 := (cell_of_row _ _ 0 _ _ (0, 0) (hbb _ b2).m.mf).trans rfl
      have x3 := (cell_of_row _ _ 0 _ _ (0, 0) (hbb _ b3).m.mf).trans rfl
      have x4 := (cell_of_row _ _ 0 _ _ (0, 0) (hbb _ b4).m.mf).trans rfl
      have R1 := Lib.hid (show Rdv (wr.alloc (.cells #[.int .u8 77] 5)).drew (some ⟨wr.heap.size, 0, none⟩) 1 1 (valsB [77]) from (rdv_byte wr 77).ext (fun _ _ => rfl))
      have R3 := Lib.hid (show Rdv ((wr.alloc (.cells #[.int .u8 0, .int .u8 0, .int .u8 0, .int .u8 0, .int .u8 0, .int .u8 0, .int .u8 0, .int .u8 0, .int .u8 0, .int .u8 0, .int .u8 0, .int .u8 0, .int .u8 0, .int .u8 0, .int .u8 0, .int .u8 0, .int .u8 0, .int .u8 0, .int .u8 0, .int .u8 0, .int .u8 0, .int .u8 0, .int .u8 0, .int .u8 0, .int .u8 0, .int .u8 0, .int .u8 0, .int .u8 0, .int .u8 0, .int .u8 0, .int .u8 0, .int .u8 0, .int .u8 0, .int .u8 0, .int .u8 0, .int .u8 0, .int .u8 0, .int .u8 0, .int .u8 0, .int .u8 0, .int .u8 0, .int .u8 0, .int .u8 0, .int .u8 0, .int .u8 0, .int .u8 0, .int .u8 0, .int .u8 0, .int .u8 0, .int .u8 0, .int .u8 0, .int .u8 0, .int .u8 0, .int .u8 0, .int .u8 0, .int .u8 0, .int .u8 0, .int .u8 0, .int .u8 0, .int .u8 0, .int .u8 0, .int .u8 0, .int .u8 0, .int .u8 0] 75)).alloc (.cells #[.int .u8 77] 5)).drew (some ⟨wr.heap.size + 1, 0, none⟩) 1 1 (valsB [77]) from by
        have h := (rdv_byte (wr.alloc (.cells #[.int .u8 0, .int .u8 0, .int .u8 0, .int .u8 0, .int .u8 0, .int .u8 0, .int .u8 0, .int .u8 0, .int .u8 0, .int .u8 0, .int .u8 0, .int .u8 0, .int .u8 0, .int .u8 0, .int .u8 0, .int .u8 0, .int .u8 0, .int .u8 0, .int .u8 0, .int .u8 0, .int .u8 0, .int .u8 0, .int .u8 0, .int .u8 0, .int .u8 0, .int .u8 0, .int .u8 0, .int .u8 0, .int .u8 0, .int .u8 0, .int .u8 0, .int .u8 0, .int .u8 0, .int .u8 0, .int .u8 0, .int .u8 0, .int .u8 0, .int .u8 0, .int .u8 0, .int .u8 0, .int .u8 0, .int .u8 0, .int .u8 0, .int .u8 0, .int .u8 0, .int .u8 0, .int .u8 0, .int .u8 0, .int .u8 0, .int .u8 0, .int .u8 0, .int .u8 0, .int .u8 0, .int .u8 0, .int .u8 0, .int .u8 0, .int .u8 0, .int .u8 0, .int .u8 0, .int .u8 0, .int .u8 0, .int .u8 0, .int .u8 0, .int .u8 0] 75)) 77).ext (w' := ((wr.alloc (.cells #[.int .u8 0, .int .u8 0, .int .u8 0, .int .u8 0, .int .u8 0, .int .u8 0, .int .u8 0, .int .u8 0, .int .u8 0, .int .u8 0, .int .u8 0, .int .u8 0, .int .u8 0, .int .u8 0, .int .u8 0, .int .u8 0, .int .u8 0, .int .u8 0, .int .u8 0, .int .u8 0, .int .u8 0, .int .u8 0, .int .u8 0, .int .u8 0, .int .u8 0, .int .u8 0, .int .u8 0, .int .u8 0, .int .u8 0, .int .u8 0, .int .u8 0, .int .u8 0, .int .u8 0, .int .u8 0, .int .u8 0, .int .u8 0, .int .u8 0, .int .u8 0, .int .u8 0, .int .u8 0, .int .u8 0, .int .u8 0, .int .u8 0, .int .u8 0, .int .u8 0, .int .u8 0, .int .u8 0, .int .u8 0, .int .u8 0, .int .u8 0, .int .u8 0, .int .u8 0, .int .u8 0, .int .u8 0, .int .u8 0, .int .u8 0, .int .u8 0, .int .u8 0, .int .u8 0, .int .u8 0, .int .u8 0, .int .u8 0, .int .u8 0, .int .u8 0] 75)).alloc (.cells #[.int .u8 77] 5)).drew) (fun _ _ => rfl)
        rw [World.size_alloc] at h
        exact h)
      have R4 := Lib.hid (show Rdv ((wr.alloc (.cells #[.int .u8 77] 5)).alloc (.cells #[.int .u8 0, .int .u8 0, .int .u8 0, .int .u8 0, .int .u8 0, .int .u8 0, .int .u8 0, .int .u8 0, .int .u8 0, .int .u8 0, .int .u8 0, .int .u8 0, .int .u8 0, .int .u8 0, .int .u8 0, .int .u8 0, .int .u8 0, .int .u8 0, .int .u8 0, .int .u8 0, .int .u8 0, .int .u8 0, .int .u8 0, .int .u8 0, .int .u8 0, .int .u8 0, .int .u8 0, .int .u8 0, .int .u8 0, .int .u8 0, .int .u8 0, .int .u8 0, .int .u8 0, .int .u8 0, .int .u8 0, .int .u8 0, .int .u8 0, .int .u8 0, .int .u8 0, .int .u8 0, .int .u8 0, .int .u8 0, .int .u8 0, .int .u8 0, .int .u8 0, .int .u8 0, .int .u8 0, .int .u8 0, .int .u8 0, .int .u8 0, .int .u8 0, .int .u8 0, .int .u8 0, .int .u8 0, .int .u8 0, .int .u8 0, .int .u8 0, .int .u8 0, .int .u8 0, .int .u8 0, .int .u8 0, .int .u8 0, .int .u8 0, .int .u8 0] 75)).drew (some ⟨wr.heap.size, 0, none⟩) 1 1 (valsB [77]) from (rdv_alloc (rdv_byte wr 77) _).ext (fun _ _ => rfl))
      have S3 := Lib.hid (show Sec ((wr.alloc (.cells #[.int .u8 0, .int .u8 0, .int .u8 0, .int .u8 0, .int .u8 0, .int .u8 0, .int .u8 0, .int .u8 0, .int .u8 0, .int .u8 0, .int .u8 0, .int .u8 0, .int .u8 0, .int .u8 0, .int .u8 0, .int .u8 0, .int .u8 0, .int .u8 0, .int .u8 0, .int .u8 0, .int .u8 0, .int .u8 0, .int .u8 0, .int .u8 0, .int .u8 0, .int .u8 0, .int .u8 0, .int .u8 0, .int .u8 0, .int .u8 0, .int .u8 0, .int .u8 0, .int .u8 0, .int .u8 0, .int .u8 0, .int .u8 0, .int .u8 0, .int .u8 0, .int .u8 0, .int .u8 0, .int .u8 0, .int .u8 0, .int .u8 0, .int .u8 0, .int .u8 0, .int .u8 0, .int .u8 0, .int .u8 0, .int .u8 0, .int .u8 0, .int .u8 0, .int .u8 0, .int .u8 0, .int .u8 0, .int .u8 0, .int .u8 0, .int .u8 0, .int .u8 0, .int .u8 0, .int .u8 0, .int .u8 0, .int .u8 0, .int .u8 0, .int .u8 0] 75)).alloc (.cells #[.int .u8 77] 5)).drew wr.heap.size (noughts 64) from (heap_alloc_old _ _ (by simp)).trans (sec_new0 wr))
      have S4 := Lib.hid (show Sec ((wr.alloc (.cells #[.int .u8 77] 5)).alloc (.cells #[.int .u8 0, .int .u8 0, .int .u8 0, .int .u8 0, .int .u8 0, .int .u8 0, .int .u8 0, .int .u8 0, .int .u8 0, .int .u8 0, .int .u8 0, .int .u8 0, .int .u8 0, .int .u8 0, .int .u8 0, .int .u8 0, .int .u8 0, .int .u8 0, .int .u8 0, .int .u8 0, .int .u8 0, .int .u8 0, .int .u8 0, .int .u8 0, .int .u8 0, .int .u8 0, .int .u8 0, .int .u8 0, .int .u8 0, .int .u8 0, .int .u8 0, .int .u8 0, .int .u8 0, .int .u8 0, .int .u8 0, .int .u8 0, .int .u8 0, .int .u8 0, .int .u8 0, .int .u8 0, .int .u8 0, .int .u8 0, .int .u8 0, .int .u8 0, .int .u8 0, .int .u8 0, .int .u8 0, .int .u8 0, .int .u8 0, .int .u8 0, .int .u8 0, .int .u8 0, .int .u8 0, .int .u8 0, .int .u8 0, .int .u8 0, .int .u8 0, .int .u8 0, .int .u8 0, .int .u8 0, .int .u8 0, .int .u8 0, .int .u8 0, .int .u8 0] 75)).drew (wr.heap.size + 1) (noughts 64) from by
        have h := sec_new0 (wr.alloc (.cells #[.int .u8 77] 5))
        rw [World.size_alloc] at h
        exact h)
      have HVX := Lib.hid (show valsB X0 ++ valsB [77] = valsB X by rw [HX0.out, valsB_append])
      have B1 := Lib.hid b1
      have B3 := Lib.hid b3
      have B4 := Lib.hid b4
      clear b0 b1 b2 b3 b4 hbb hown
      have hsz : (secV S).size = 64 := by rw [secV_size]; exact HSL.out
      have hst := fun w1 => store_new w1 S HSL.out
      go_cut [5, 6] from 52 to 61 (fun z y wx => ∃ p, z = .pointer (some ⟨p, 0, none⟩) ∧ w.heap.size + 2 ≤ p ∧ Sec wx p S ∧ MrW w wx #[.int .i64 (g : Int), .int .i64 (ep : Int), .int .i64 (b : Int), .int .i64 (a : Int), .int .i64 (l : Int), .slice A k c])
      case first =>
        go_region_law (first | (refine step_append_rowv elemB (by simp [Region.wanted]) (.tmp 55) (.tmp 56) rfl (w.heap.size + 2) (.slice A9 n9 c9) n9 (valsB X0) rfl (HOWN.out _ B1.out) _ 1 1 (valsB [77]) rfl R1.out (valsB_one _) (fun h => by cases h) (by unfold maxLen; have := HN9.out.2; omega) (by have := HN9.out.2; omega) (HBB.out _ B1.out).m.size ?_; intro v3 w3 ho hg hq; have HM3 := Lib.hid ((HBB.out _ B1.out).m.grown hg (fun r e => ((HOWN.out _ B1.out).lt r e).1)); rw [HVX.out] at ho; obtain ⟨A3, c3, rfl, hr3, _⟩ := rdv_own ho; have HRX := Lib.hid hr3; have y0 := (cell_of_row _ _ 0 _ _ (0, 0) HM3.out.mf).trans rfl; have y1 := (cell_of_row _ _ 0 _ _ (0, 0) (HM3.out.old ((Below.refl _ w3).alloc (Nat.le_refl _) (.cells #[.int .u8 0, .int .u8 0, .int .u8 0, .int .u8 0, .int .u8 0, .int .u8 0, .int .u8 0, .int .u8 0, .int .u8 0, .int .u8 0, .int .u8 0, .int .u8 0, .int .u8 0, .int .u8 0, .int .u8 0, .int .u8 0, .int .u8 0, .int .u8 0, .int .u8 0, .int .u8 0, .int .u8 0, .int .u8 0, .int .u8 0, .int .u8 0, .int .u8 0, .int .u8 0, .int .u8 0, .int .u8 0, .int .u8 0, .int .u8 0, .int .u8 0, .int .u8 0, .int .u8 0, .int .u8 0, .int .u8 0, .int .u8 0, .int .u8 0, .int .u8 0, .int .u8 0, .int .u8 0, .int .u8 0, .int .u8 0, .int .u8 0, .int .u8 0, .int .u8 0, .int .u8 0, .int .u8 0, .int .u8 0, .int .u8 0, .int .u8 0, .int .u8 0, .int .u8 0, .int .u8 0, .int .u8 0, .int .u8 0, .int .u8 0, .int .u8 0, .int .u8 0, .int .u8 0, .int .u8 0, .int .u8 0, .int .u8 0, .int .u8 0, .int .u8 0] 75))).mf).trans rfl; clear ho hg hq hr3) | (refine step_append_rowv elemB (by simp [Region.wanted]) (.tmp 55) (.tmp 56) rfl (w.heap.size + 2) (.slice A9 n9 c9) n9 (valsB X0) rfl (HOWN.out _ B3.out) _ 1 1 (valsB [77]) rfl R3.out (valsB_one _) (fun h => by cases h) (by unfold maxLen; have := HN9.out.2; omega) (by have := HN9.out.2; omega) (HBB.out _ B3.out).m.size ?_; intro v3 w3 ho hg hq; have HM3 := Lib.hid ((HBB.out _ B3.out).m.grown hg (fun r e => ((HOWN.out _ B3.out).lt r e).1)); rw [HVX.out] at ho; obtain ⟨A3, c3, rfl, hr3, _⟩ := rdv_own ho; have HRX := Lib.hid hr3; have y0 := (cell_of_row _ _ 0 _ _ (0, 0) HM3.out.mf).trans rfl; have y1 := (cell_of_row _ _ 0 _ _ (0, 0) (HM3.out.old ((Below.refl _ w3).alloc (Nat.le_refl _) (.cells #[.int .u8 0, .int .u8 0, .int .u8 0, .int .u8 0, .int .u8 0, .int .u8 0, .int .u8 0, .int .u8 0, .int .u8 0, .int .u8 0, .int .u8 0, .int .u8 0, .int .u8 0, .int .u8 0, .int .u8 0, .int .u8 0, .int .u8 0, .int .u8 0, .int .u8 0, .int .u8 0, .int .u8 0, .int .u8 0, .int .u8 0, .int .u8 0, .int .u8 0, .int .u8 0, .int .u8 0, .int .u8 0, .int .u8 0, .int .u8 0, .int .u8 0, .int .u8 0, .int .u8 0, .int .u8 0, .int .u8 0, .int .u8 0, .int .u8 0, .int .u8 0, .int .u8 0, .int .u8 0, .int .u8 0, .int .u8 0, .int .u8 0, .int .u8 0, .int .u8 0, .int .u8 0, .int .u8 0, .int .u8 0, .int .u8 0, .int .u8 0, .int .u8 0, .int .u8 0, .int .u8 0, .int .u8 0, .int .u8 0, .int .u8 0, .int .u8 0, .int .u8 0, .int .u8 0, .int .u8 0, .int .u8 0, .int .u8 0, .int .u8 0, .int .u8 0] 75))).mf).trans rfl; have HS3 := Lib.hid (show Sec w3 wr.heap.size (noughts 64) from (hg.block _ (by simp [World.drew] <;> omega) (fun e => by have := (HI.out.own.lt _ e.symm).2; omega)).trans S3.out); have HP4 := Lib.hid HI.out.m.size; clear ho hg hq hr3) | (refine step_append_rowv elemB (by simp [Region.wanted]) (.tmp 55) (.tmp 56) rfl (w.heap.size + 2) (.slice A9 n9 c9) n9 (valsB X0) rfl (HOWN.out _ B4.out) _ 1 1 (valsB [77]) rfl R4.out (valsB_one _) (fun h => by cases h) (by unfold maxLen; have := HN9.out.2; omega) (by have := HN9.out.2; omega) (HBB.out _ B4.out).m.size ?_; intro v3 w3 ho hg hq; have HM3 := Lib.hid ((HBB.out _ B4.out).m.grown hg (fun r e => ((HOWN.out _ B4.out).lt r e).1)); rw [HVX.out] at ho; obtain ⟨A3, c3, rfl, hr3, _⟩ := rdv_own ho; have HRX := Lib.hid hr3; have y0 := (cell_of_row _ _ 0 _ _ (0, 0) HM3.out.mf).trans rfl; have y1 := (cell_of_row _ _ 0 _ _ (0, 0) (HM3.out.old ((Below.refl _ w3).alloc (Nat.le_refl _) (.cells #[.int .u8 0, .int .u8 0, .int .u8 0, .int .u8 0, .int .u8 0, .int .u8 0, .int .u8 0, .int .u8 0, .int .u8 0, .int .u8 0, .int .u8 0, .int .u8 0, .int .u8 0, .int .u8 0, .int .u8 0, .int .u8 0, .int .u8 0, .int .u8 0, .int .u8 0, .int .u8 0, .int .u8 0, .int .u8 0, .int .u8 0, .int .u8 0, .int .u8 0, .int .u8 0, .int .u8 0, .int .u8 0, .int .u8 0, .int .u8 0, .int .u8 0, .int .u8 0, .int .u8 0, .int .u8 0, .int .u8 0, .int .u8 0, .int .u8 0, .int .u8 0, .int .u8 0, .int .u8 0, .int .u8 0, .int .u8 0, .int .u8 0, .int .u8 0, .int .u8 0, .int .u8 0, .int .u8 0, .int .u8 0, .int .u8 0, .int .u8 0, .int .u8 0, .int .u8 0, .int .u8 0, .int .u8 0, .int .u8 0, .int .u8 0, .int .u8 0, .int .u8 0, .int .u8 0, .int .u8 0, .int .u8 0, .int .u8 0, .int .u8 0, .int .u8 0] 75))).mf).trans rfl; have HS3 := Lib.hid (show Sec w3 (wr.heap.size + 1) (noughts 64) from (hg.block _ (by simp [World.drew] <;> omega) (fun e => by have := (HI.out.own.lt _ e.symm).2; omega)).trans S4.out); have HP4 := Lib.hid (show w.heap.size + 2 ≤ wr.heap.size + 1 by have := HI.out.m.size; omega); clear ho hg hq hr3) | (go_simp; go_at_call 85; refine Calls.mono (HSEAL.out w3 _ _ HRX.out) ?_; rintro e w4 ⟨rfl, hb4⟩; have HM4 := Lib.hid (HM3.out.old hb4); try (have HS4 := Lib.hid (HS3.out.old hb4); have hst4 := store_sec HS4.out noughts64 HSL.out); clear hb4) | (go_simp; go_at_call 85; refine Calls.mono (HSEAL.out _ _ _ (HRX.out.ext (stays_b ((Below.refl _ w3).alloc (Nat.le_refl _) _)))) ?_; rintro e w4 ⟨rfl, hb4⟩; have HM4 := Lib.hid ((HM3.out.old ((Below.refl _ w3).alloc (Nat.le_refl _) _)).old hb4); have HS4 := Lib.hid ((sec_new0 w3).old hb4); have hst4 := store_sec HS4.out noughts64 HSL.out; have HP4 := Lib.hid HM3.out.size; clear hb4))
        all_goals first
          | (go_wp2_with fail
             go_meet
             exact ⟨_, rfl, HP4.out, HS4.out.put S, HM4.out.put _ HP4.out _⟩)
          | (go_wp2_with fail
             go_meet
             exact ⟨_, rfl, HM4.out.size, heap_alloc_new w4 _, HM4.out.old ((Below.refl _ w4).alloc (Nat.le_refl _) _)⟩)
      case rest =>
        obtain ⟨p, rfl, hp, hsp, hm⟩ := hcut
        clear hst hsz
        have HP := Lib.hid (And.intro hp (And.intro hsp hm))
        clear hp hsp hm
        go_wp2_with (first | refine wpList_load_sec (by rfl) (.tmp 5) rfl p rfl S HSL.out HP.out.2.1 ?_ | refine wpList_store_sec rfl (.tmp 2) (.tmp 62) rfl (w.heap.size + 1) rfl (noughts 64) S rfl noughts64 HSL.out HP.out.2.2.res ?_)
        refine bodyPost_ret (resRS (Sec.put HP.out.2.2.res S) HSL.out _ rfl) rfl ?_
        exact ⟨rfl, below_setRow HP.out.2.2.below (Nat.le_succ _) _⟩
end Go.Proofs.Ytjmjehhmkjhalaa
