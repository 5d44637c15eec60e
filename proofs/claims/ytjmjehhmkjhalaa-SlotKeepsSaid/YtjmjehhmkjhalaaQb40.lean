/- SlSeal: put together. -/
import Derived.Test.YtjmjehhmkjhalaaQb31
import Derived.Test.YtjmjehhmkjhalaaQb39
import Derived.Test.YtjmjehhmkjhalaaQb15
/- slot.Seal. -/
namespace Go.Proofs.Ytjmjehhmkjhalaa
set_option maxRecDepth 100000
open Go.RowKit

theorem resSl {w : World} {g : Nat} {l : List Nat} (h : Sec w g l) (hl : l.length = 64) (tmps : Array Value) (h2 : tmps.getD 2 undef = .pointer (some ⟨g, 0, none⟩)) :
    (results Try.f50 tmps).run Try.prog w = .ok (.tuple #[.agg (secV l), tmps.getD 3 undef]) w := by
  have h2' : tmps[2]?.getD undef = .pointer (some ⟨g, 0, none⟩) := by simpa using h2
  have hl := load_sec h hl
  have e : Try.f50.results = #[.cell 2 75, .tmp 3] := Try.results50
  simp only [results, e]
  simp [asAddr, h2', hl]
/-- The world of Seal's variables: the manifest, the result. -/
structure MfW (w W : World) (cs : Array Value) (r : List Nat) : Prop where
  mf : W.heap[w.heap.size]? = some (.cells cs 93 (0, 0))
  res : Sec W (w.heap.size + 1) r
  below : Below w.heap.size w W
  size : w.heap.size + 2 ≤ W.heap.size
theorem mfW_new (w : World) (cs : Array Value) : MfW w ((w.alloc (.cells cs 93)).alloc (.cells (secV (noughts 64)) 75)) cs (noughts 64) where
  mf := (heap_alloc_old _ _ (by simp)).trans (heap_alloc_new w _)
  res := heap_alloc2_new w _ _
  below := ((Below.refl _ w).alloc (Nat.le_refl _) _).alloc (by simp) _
  size := by simp
theorem MfW.old {w W W' : World} {cs : Array Value} {r : List Nat} (h : MfW w W cs r) (hb : Below W.heap.size W W') : MfW w W' cs r :=
  ⟨(hb.block _ (by have := h.size; omega)).trans h.mf, h.res.old hb, h.below.trans (hb.mono h.below.size), Nat.le_trans h.size hb.size⟩
theorem MfW.at {w W W' : World} {cs : Array Value} {r : List Nat} (h : MfW w W cs r) (hb : Below w.heap.size w W') (hs : w.heap.size + 2 ≤ W'.heap.size) (h1 : W'.heap[w.heap.size]? = W.heap[w.heap.size]?) (h2 : W'.heap[w.heap.size + 1]? = W.heap[w.heap.size + 1]?) : MfW w W' cs r :=
  ⟨h1.trans h.mf, h2.trans h.res, hb, hs⟩
theorem MfW.put {w W : World} {cs : Array Value} {r : List Nat} (h : MfW w W cs r) (l : List Nat) : Sec (W.setRow (w.heap.size + 1) (secV l)) (w.heap.size + 1) l ∧ Below w.heap.size w (W.setRow (w.heap.size + 1) (secV l)) :=
  ⟨h.res.put l, below_setRow h.below (Nat.le_succ _) _⟩
set_option maxHeartbeats 1000000 in
theorem slseal_bad (m : Mf) (A : Option Addr) (c : Nat) (w : World) (h : Zs w A m.heads) (hn : m.heads.length ≤ 9223372036854775807) (hg : goodB m = false) :
    Calls Try.prog 50 #[.agg (mfC m A c)] w fun e w' => e = .returned (.tuple #[.agg (secV (noughts 64)), eForm]) ∧ Below w.heap.size w w' := by
  have hW := mfW_new w (mfC m A c)
  have HC := Lib.hid (slgood_any m A c _ (RowAt.below h hW.below) hn)
  rw [hg] at HC
  have HW := Lib.hid hW
  unfold mfC at HW HC ⊢
  clear hW h hn hg
  go_enter Try.func50, Try.ntmps50
  go_upto_region 1 with (fail)
  rw [zeros_sec]
  obtain ⟨w1, hw1⟩ : ∃ w1, w1 = (w.alloc (.cells #[.int .i64 m.gen, .int .i64 m.epoch, .int .i64 m.base, .int .i64 m.area, .int .i64 m.len, .slice A m.heads.length c] 93)).alloc (.cells (secV (noughts 64)) 75) := ⟨_, rfl⟩
  rw [← hw1] at HW HC ⊢
  clear hw1
  have k0 := (cell_of_row _ _ 0 _ _ (0, 0) HW.out.mf).trans rfl
  have k1 := (cell_of_row _ _ 1 _ _ (0, 0) HW.out.mf).trans rfl
  have k2 := (cell_of_row _ _ 2 _ _ (0, 0) HW.out.mf).trans rfl
  have k3 := (cell_of_row _ _ 3 _ _ (0, 0) HW.out.mf).trans rfl
  have k4 := (cell_of_row _ _ 4 _ _ (0, 0) HW.out.mf).trans rfl
  have k5 := (cell_of_row _ _ 5 _ _ (0, 0) HW.out.mf).trans rfl
  go_wp2_with fail
  refine Calls.mono HC.out ?_
  rintro e w2 ⟨rfl, hb2⟩
  have HW2 := Lib.hid (HW.out.old hb2)
  clear hb2
  go_wp2_with (first | refine wpList_store_sec rfl (.tmp 2) (.tmp 12) rfl (w.heap.size + 1) rfl (noughts 64) (noughts 64) (congrArg Value.agg zeros_sec) noughts64 noughts64 HW2.out.res ?_)
  exact bodyPost_ret (resSl (HW2.out.put _).1 noughts64 _ rfl) rfl ⟨rfl, (HW2.out.put _).2⟩
/-- The manifest of natural numbers. -/
def natM (g e b a l : Nat) (hs : List Nat) : Mf := ⟨g, e, b, a, l, hs.map fun n : Nat => (n : Int)⟩
theorem mf_nat {m : Mf} (h : GoodM m) : ∃ g e b a l hs, m = natM g e b a l hs := by
  have hn := h.hs
  obtain ⟨g1, g2, e1, e2, b1, b2, a1, a2, l1, l2, _, _, _⟩ := h
  refine ⟨m.gen.toNat, m.epoch.toNat, m.base.toNat, m.area.toNat, m.len.toNat, m.heads.map Int.toNat, ?_⟩
  unfold natM
  rw [List.map_map]
  have e : m.heads.map ((fun n : Nat => (n : Int)) ∘ Int.toNat) = m.heads := by
    conv => rhs; rw [← List.map_id m.heads]
    refine List.map_congr_left fun h hh => ?_
    have := hn h hh
    show ((h.toNat : Nat) : Int) = h
    omega
  rw [e, Int.toNat_of_nonneg (by omega), Int.toNat_of_nonneg (by omega), Int.toNat_of_nonneg (by omega), Int.toNat_of_nonneg (by omega), Int.toNat_of_nonneg (by omega)]
/-- Five numbers in a row, and what is written of them. -/
def fiveN (e b a l k : Nat) : List Nat := [e, b, a, l, k]
def cntsN (l : List Nat) : List Nat := l.flatMap cntN
theorem cntsN_len : ∀ (l : List Nat), (∀ n ∈ l, n < 18446744073709551616) → (cntsN l).length ≤ 10 * l.length
  | [], _ => by simp [cntsN]
  | n :: t, h => by
    have h1 := (cntN_length n (h n (List.mem_cons_self ..))).2
    have h2 := cntsN_len t fun x hx => h x (List.mem_cons_of_mem _ hx)
    unfold cntsN at h2 ⊢
    rw [List.flatMap_cons, List.length_append, List.length_cons]
    omega
theorem cntsN_take (l : List Nat) (q : Nat) (hq : q < l.length) : cntsN (l.take (q + 1)) = cntsN (l.take q) ++ cntN l[q] := by
  unfold cntsN
  rw [List.take_succ_eq_append_getElem hq, List.flatMap_append]
  simp
theorem enc_nat (g e b a l : Nat) (hs : List Nat) : encM (natM g e b a l hs) = cntsN (fiveN e b a l hs.length) ++ cntsN hs ++ [77] := by
  unfold encM natM fiveN cntsN hdsB
  simp [List.flatMap_map]
set_option maxHeartbeats 4000000 in
theorem slseal_nat (g ep b a l : Nat) (hs : List Nat) (A : Option Addr) (c : Nat) (w : World) (h : Zs w A (hs.map fun n : Nat => (n : Int))) (hg : GoodM (natM g ep b a l hs)) :
    Calls Try.prog 50 #[.agg #[.int .i64 (g : Int), .int .i64 (ep : Int), .int .i64 (b : Int), .int .i64 (a : Int), .int .i64 (l : Int), .slice A hs.length c]] w fun e w' => e = .returned (.tuple #[.agg (secV (secM (natM g ep b a l hs))), .nilIface]) ∧ Below w.heap.size w w' := by
  have hgl : (natM g ep b a l hs).heads.length = hs.length := by simp [natM]
  have hk4 : hs.length ≤ 4 := by rw [← hgl]; exact hg.h2
  have hnum : ep < 18446744073709551616 ∧ b < 18446744073709551616 ∧ a < 18446744073709551616 ∧ l < 18446744073709551616 ∧ 1 ≤ g ∧ g ≤ 17179869183 := by
    obtain ⟨g1, g2, e1, e2, b1, b2, a1, a2, l1, l2, _, _, _⟩ := hg
    simp only [natM] at g1 g2 e1 e2 b1 b2 a1 a2 l1 l2
    omega
  have hhs : ∀ n ∈ hs, n < 4294967296 := fun n hn => by
    have := hg.hs (n : Int) (List.mem_map_of_mem (f := fun n : Nat => (n : Int)) hn)
    omega
  have HENC := Lib.hid (enc_nat g ep b a l hs)
  have HEL := Lib.hid (encM_len hg)
  have HSM := Lib.hid (show secM (natM g ep b a l hs) = sealN g 3 (encM (natM g ep b a l hs)) from rfl)
  have HSL := Lib.hid (secM_len hg)
  have hgb : goodB (natM g ep b a l hs) = true := (goodB_iff _).2 hg
  have hW := mfW_new w (mfC (natM g ep b a l hs) A c)
  have HC := Lib.hid (slgood_any (natM g ep b a l hs) A c _ (RowAt.below h hW.below) (by rw [hgl]; omega))
  rw [hgb] at HC
  unfold mfC at HC hW
  rw [hgl] at HC hW
  have HH := Lib.hid h
  have HN := Lib.hid hnum
  have HHS := Lib.hid hhs
  obtain ⟨k, hk⟩ : ∃ k, k = hs.length := ⟨_, rfl⟩
  rw [← hk] at hk4 HENC HC hW ⊢
  have HK := Lib.hid hk
  obtain ⟨S, hS⟩ : ∃ S, S = secM (natM g ep b a l hs) := ⟨_, rfl⟩
  rw [← hS] at HSM HSL ⊢
  obtain ⟨X, hX⟩ : ∃ X, X = encM (natM g ep b a l hs) := ⟨_, rfl⟩
  rw [← hX] at HENC HEL HSM
  have HW := Lib.hid hW
  have hs5 : ∀ n ∈ fiveN ep b a l k, n < 18446744073709551616 := by
    have := HN.out
    intro n hn
    simp only [fiveN, List.mem_cons, List.not_mem_nil, or_false] at hn
    omega
  have H5 := Lib.hid hs5
  have hsh : ∀ n ∈ hs, n < 18446744073709551616 := fun n hn => by have := HHS.out n hn; omega
  have HLN := Lib.hid (show ∀ q, q ≤ 5 → (cntsN ((fiveN ep b a l k).take q)).length ≤ 50 from fun q hq => by
    have := cntsN_len ((fiveN ep b a l k).take q) (fun n hn => H5.out n (List.mem_of_mem_take hn))
    rw [List.length_take, show (fiveN ep b a l k).length = 5 from rfl] at this
    omega)
  have HLH := Lib.hid (show ∀ q, q ≤ k → (cntsN (hs.take q)).length ≤ 40 from fun q hq => by
    have := cntsN_len (hs.take q) (fun n hn => hsh n (List.mem_of_mem_take hn))
    rw [List.length_take] at this
    omega)
  clear hgb hg h hnum hhs hk hS hX hW hs5 hgl hsh
  simp only [natM] at HC HW
  go_enter Try.func50, Try.ntmps50
  go_upto_region 1 with (fail)
  rw [zeros_sec]
  obtain ⟨w1, hw1⟩ : ∃ w1, w1 = (w.alloc (.cells #[.int .i64 (g : Int), .int .i64 (ep : Int), .int .i64 (b : Int), .int .i64 (a : Int), .int .i64 (l : Int), .slice A k c] 93)).alloc (.cells (secV (noughts 64)) 75) := ⟨_, rfl⟩
  rw [← hw1] at HW HC ⊢
  clear hw1
  have k0 := (cell_of_row _ _ 0 _ _ (0, 0) HW.out.mf).trans rfl
  have k1 := (cell_of_row _ _ 1 _ _ (0, 0) HW.out.mf).trans rfl
  have k2 := (cell_of_row _ _ 2 _ _ (0, 0) HW.out.mf).trans rfl
  have k3 := (cell_of_row _ _ 3 _ _ (0, 0) HW.out.mf).trans rfl
  have k4 := (cell_of_row _ _ 4 _ _ (0, 0) HW.out.mf).trans rfl
  have k5 := (cell_of_row _ _ 5 _ _ (0, 0) HW.out.mf).trans rfl
  go_wp2_with fail
  refine Calls.mono HC.out ?_
  rintro e2 w2 ⟨rfl, hb2⟩
  have HW2 := Lib.hid (HW.out.old hb2)
  clear hb2 k0 k1 k2 k3 k4 k5
  go_upto_region 4 with (fail)
  obtain ⟨gw, hgw⟩ : ∃ gw, gw = w2.heap.size := ⟨_, rfl⟩
  obtain ⟨w3, hw3⟩ : ∃ w3, w3 = w2.alloc (.cells #[.slice none 0 0] 204) := ⟨_, rfl⟩
  have hb3 : Below w2.heap.size w2 w3 := by rw [hw3]; exact (Below.refl _ _).alloc (Nat.le_refl _) _
  have HW3 := Lib.hid (HW2.out.old hb3)
  have h3g : w3.heap[gw]? = some (.cells #[.slice none 0 0] 204 (0, 0)) := by rw [hw3, hgw]; exact heap_alloc_new w2 _
  have HI3 : Hid (WI w gw [] (fun q => q = w.heap.size ∨ q = w.heap.size + 1) w3) := Lib.hid (WI.new HW3.out.below (by have := HW2.out.size; omega) h3g fun q e => by
    have h1 := HW2.out.size
    have h2 := hb3.size
    rcases e with rfl | rfl <;> omega)
  rw [← hw3, ← hgw]
  clear hw3 hb3 h3g hgw
  have k0 := (cell_of_row _ _ 0 _ _ (0, 0) HW3.out.mf).trans rfl
  have k1 := (cell_of_row _ _ 1 _ _ (0, 0) HW3.out.mf).trans rfl
  have k2 := (cell_of_row _ _ 2 _ _ (0, 0) HW3.out.mf).trans rfl
  have k3 := (cell_of_row _ _ 3 _ _ (0, 0) HW3.out.mf).trans rfl
  have k4 := (cell_of_row _ _ 4 _ _ (0, 0) HW3.out.mf).trans rfl
  have k5 := (cell_of_row _ _ 5 _ _ (0, 0) HW3.out.mf).trans rfl
  go_wp2_with fail
  obtain ⟨z, hz⟩ : ∃ z, z = w3.heap.size := ⟨_, rfl⟩
  obtain ⟨w4, hw4⟩ : ∃ w4, w4 = w3.alloc (.cells #[.int .i64 (ep : Int), .int .i64 (b : Int), .int .i64 (a : Int), .int .i64 (l : Int), .int .i64 (k : Int)] 3) := ⟨_, rfl⟩
  have hb4 : Below w3.heap.size w3 w4 := by rw [hw4]; exact (Below.refl _ _).alloc (Nat.le_refl _) _
  have hz4 : w4.heap[z]? = some (.cells #[.int .i64 (ep : Int), .int .i64 (b : Int), .int .i64 (a : Int), .int .i64 (l : Int), .int .i64 (k : Int)] 3 (0, 0)) := by rw [hw4, hz]; exact heap_alloc_new w3 _
  have HI4 : Hid (WI w gw [] (fun q => q = w.heap.size ∨ q = w.heap.size + 1 ∨ q = z) w4) := Lib.hid ((HI3.out.later hb4).few fun q e => by
    rcases e with e | e | e
    · exact .inl (.inl e)
    · exact .inl (.inr e)
    · refine .inr ?_
      rw [e, hw4, hz]; simp)
  have HW4 := Lib.hid (HW3.out.old hb4)
  have HZ4 := Lib.hid hz4
  rw [← hw4, ← hz]
  clear hw4 hz hb4 hz4 k0 k1 k2 k3 k4 k5
  go_loopw [6, 27] (fun _ i wr => ∃ q : Nat, i = .int .i64 (q : Int) ∧ q ≤ 5 ∧ WI w gw (cntsN ((fiveN ep b a l k).take q)) (fun q => q = w.heap.size ∨ q = w.heap.size + 1 ∨ q = z) wr ∧ (∀ q, (q = w.heap.size ∨ q = w.heap.size + 1 ∨ q = z) → wr.heap[q]? = w4.heap[q]?)) (fun _ i _ => 5 - (intOf i).toNat)
  case atStart => exact ⟨0, rfl, by omega, HI4.out, fun _ _ => rfl⟩
  case round =>
    obtain ⟨q, rfl, hq, hI, hO⟩ := hrel
    have HI := Lib.hid hI
    have HO := Lib.hid hO
    clear hI hO
    by_cases hlt : q < 5
    · obtain ⟨x, hx⟩ : ∃ x, x = (fiveN ep b a l k)[q]'hlt := ⟨_, rfl⟩
      have hc : wr.cell? ⟨z, q, none⟩ = some (.int .i64 (x : Int)) := by
        rw [cell_of_row _ _ q _ _ (0, 0) ((HO.out z (.inr (.inr rfl))).trans HZ4.out), hx]
        have : q = 0 ∨ q = 1 ∨ q = 2 ∨ q = 3 ∨ q = 4 := by omega
        rcases this with rfl | rfl | rfl | rfl | rfl <;> rfl
      have hx64 : x < 18446744073709551616 := by rw [hx]; exact H5.out _ (List.getElem_mem hlt)
      have e1 : IntKind.u64.wrap (x : Int) = (x : Int) := by rw [IntKind.wrap_u64]; omega
      have HCO := Lib.hid (HI.out.count x hx64 (by have := HLN.out q hq; omega))
      have hxt := cntsN_take (fiveN ep b a l k) q hlt
      rw [← hx] at hxt
      rw [← hxt] at HCO
      clear hx hxt hx64
      go_wp2_with fail
      refine Calls.mono HCO.out ?_
      rintro e2 w5 ⟨rfl, hI5, hO5, _⟩
      have HI5 := Lib.hid hI5
      have HO5 := Lib.hid hO5
      clear hI5 hO5
      go_wp2_with fail
      go_roundw
      case rel => exact ⟨q + 1, by go_num, by omega, HI5.out, fun r hr => (HO5.out r hr).trans (HO.out r hr)⟩
      case measure => simp [intOf]; omega
    · have HQ5 := Lib.hid (show q = 5 by omega)
      have dq : decide ((q : Int) < 5) = false := decide_eq_false (by omega)
      have hW5 : MfW w wr #[.int .i64 (g : Int), .int .i64 (ep : Int), .int .i64 (b : Int), .int .i64 (a : Int), .int .i64 (l : Int), .slice A k c] (noughts 64) :=
        HW4.out.at HI.out.b (by have := HI.out.lt _ (.inr (.inl rfl)); omega) (HO.out _ (.inl rfl)) (HO.out _ (.inr (.inl rfl)))
      have HW5 := Lib.hid hW5
      have HX5 : Hid (WI w gw (cntsN (fiveN ep b a l k) ++ cntsN (hs.take 0)) (fun q => q = w.heap.size ∨ q = w.heap.size + 1) wr) := Lib.hid (by
        have h := HI.out.few (O' := fun q => q = w.heap.size ∨ q = w.heap.size + 1) fun q e => by
          rcases e with e | e
          · exact .inl e
          · exact .inr (.inl e)
        have e9 : cntsN (fiveN ep b a l k) ++ cntsN (hs.take 0) = cntsN ((fiveN ep b a l k).take q) := by rw [HQ5.out]; simp [cntsN, fiveN]
        rw [e9]; exact h)
      have k5 := (cell_of_row _ _ 5 _ _ (0, 0) HW5.out.mf).trans rfl
      clear hW5 hlt hq HI HO HI4 HW4 HQ5 HZ4 HI3 HW3 HW2 HW
      go_wp2_with fail
      clear k5 dq
      rename World => wo
      go_loopw [8, 38] (fun _ i ws => ∃ q : Nat, i = .int .i64 (q : Int) ∧ q ≤ k ∧ WI w gw (cntsN (fiveN ep b a l k) ++ cntsN (hs.take q)) (fun q => q = w.heap.size ∨ q = w.heap.size + 1) ws ∧ (∀ q, (q = w.heap.size ∨ q = w.heap.size + 1) → ws.heap[q]? = wo.heap[q]?) ∧ (∀ q, q < w.heap.size → ws.heap[q]? = w.heap[q]?)) (fun _ i _ => k - (intOf i).toNat)
      case atStart => exact ⟨0, rfl, by omega, HX5.out, fun _ _ => rfl, fun q hq => HX5.out.b.block q hq⟩
      case round =>
        obtain ⟨q, rfl, hq, hI, hO, hL⟩ := hrel
        have HI := Lib.hid hI
        have HO := Lib.hid hO
        have HL := Lib.hid hL
        clear hI hO hL
        by_cases hlt : q < k
        · have hql : q < hs.length := by rw [← HK.out]; exact hlt
          obtain ⟨x, hx⟩ : ∃ x, x = hs[q] := ⟨_, rfl⟩
          have hzs : Zs wr A (hs.map fun n : Nat => (n : Int)) := RowAt.ext HH.out fun p hp => by
            unfold World.cell?
            rw [HL.out p.block hp]
          obtain ⟨b9, o9, rfl, hc9⟩ := zs_cells hzs (by rw [List.length_map]; omega)
          have hc : wr.cell? ⟨b9, o9 + q, none⟩ = some (.int .i64 (x : Int)) := by
            have := hc9 q (by rw [List.length_map]; exact hql)
            rw [List.getElem_map, ← hx] at this
            exact this
          have hx32 := HHS.out x (by rw [hx]; exact List.getElem_mem hql)
          have e1 : IntKind.u64.wrap (x : Int) = (x : Int) := by rw [IntKind.wrap_u64]; omega
          have HCO := Lib.hid (HI.out.count x (by omega) (by
            rw [List.length_append]
            have h1 := HLH.out q hq
            have h2 := HLN.out 5 (Nat.le_refl _)
            have e9 : cntsN ((fiveN ep b a l k).take 5) = cntsN (fiveN ep b a l k) := rfl
            rw [e9] at h2
            omega))
          have hxt := cntsN_take hs q hql
          rw [← hx] at hxt
          rw [List.append_assoc, ← hxt] at HCO
          clear hx hxt hx32 hc9 hzs
          go_wp2_with fail
          refine Calls.mono HCO.out ?_
          rintro e2 w6 ⟨rfl, hI6, hO6, hL6⟩
          have HI6 := Lib.hid hI6
          have HO6 := Lib.hid hO6
          have HL6 := Lib.hid hL6
          clear hI6 hO6 hL6
          go_wp2_with fail
          go_roundw
          case rel => exact ⟨q + 1, by go_num, by omega, HI6.out, fun r hr => (HO6.out r hr).trans (HO.out r hr), fun r hr => (HL6.out r hr).trans (HL.out r hr)⟩
          case measure => simp [intOf]; omega
        · obtain rfl : q = k := by omega
          have hW6 : MfW w wr #[.int .i64 (g : Int), .int .i64 (ep : Int), .int .i64 (b : Int), .int .i64 (a : Int), .int .i64 (l : Int), .slice A q c] (noughts 64) :=
            HW5.out.at HI.out.b (by have := HI.out.lt _ (.inr rfl); omega) (HO.out _ (.inl rfl)) (HO.out _ (.inr rfl))
          have HW6 := Lib.hid hW6
          have hxl : (cntsN (fiveN ep b a l q) ++ cntsN (hs.take q)).length ≤ 90 := by
            rw [List.length_append]
            have h1 := HLH.out q hq
            have h2 := HLN.out 5 (Nat.le_refl _)
            have e9 : cntsN ((fiveN ep b a l q).take 5) = cntsN (fiveN ep b a l q) := rfl
            rw [e9] at h2
            omega
          have HBY := Lib.hid (HI.out.call (f := 112) (args := #[.pointer (some ⟨gw, 0, none⟩), .int .u8 ((77 : Nat) : Int)]) (ys := cntsN (fiveN ep b a l q) ++ cntsN (hs.take q) ++ [77]) fun v hv => byte_any w.heap.size gw v _ 77 wr hv (by omega))
          have e9 : cntsN (fiveN ep b a l q) ++ cntsN (hs.take q) ++ [77] = X := by rw [HENC.out, HK.out, List.take_length]
          rw [e9] at HBY
          clear hW6 e9 hxl
          go_wp2_with fail
          refine Calls.mono HBY.out ?_
          rintro e2 w7 ⟨rfl, hI7, hO7, _⟩
          have hW7 := HW6.out.at hI7.b (by have := hI7.lt _ (.inr rfl); omega) (hO7 _ (.inl rfl)) (hO7 _ (.inr rfl))
          have HW7 := Lib.hid hW7
          have HI7 := Lib.hid hI7
          clear hI7 hO7 hW7 HBY
          go_upto_region 15 with (fail)
          have HA7 : Hid (∀ W2, Below w7.drew.heap.size w7.drew W2 → MfW w W2 #[.int .i64 (g : Int), .int .i64 (ep : Int), .int .i64 (b : Int), .int .i64 (a : Int), .int .i64 (l : Int), .slice A q c] (noughts 64) ∧ WI w gw X (fun q => q = w.heap.size ∨ q = w.heap.size + 1) W2) := Lib.hid fun W2 hw => by
            have hb2 : Below w7.heap.size w7 W2 := (Below.refl _ w7).drew.trans hw
            exact ⟨HW7.out.old hb2, (HI7.out.later hb2).few fun q e => .inl e⟩
          have hXL := HEL.out
          obtain ⟨N, hN⟩ : ∃ N, N = X.length := ⟨_, rfl⟩
          rw [← hN] at hXL
          have HXN := Lib.hid hN
          have HNN := Lib.hid hXL
          clear hXL hN
          refine wp_region_noPanic ?_
          refine wp_region_abs 7 54 [
            .is (.pointer (some ⟨w.heap.size, 0, none⟩)),
            .is (.int .i64 (g : Int)),
            .tells (fun _ v _ wa => ∃ A' c', v = .slice A' N c' ∧ Rdv wa A' N 1 (valsB X) ∧ (A' = none → c' = 0 ∧ N = 0)),
            .tells (fun _ v _ wa => ∃ A' c', v = .agg #[.int .i64 (g : Int), .int .i64 3, .slice A' N c'] ∧ Rdv wa A' N 1 (valsB X) ∧ (A' = none → c' = 0 ∧ N = 0)),
            .is (.tuple #[.agg (secV S), .nilIface]),
            .is (.agg (secV S)),
            .is .nilIface]
            [47, 48, 49, 50, 51, 52, 53]
            [[], [0], [], [1, 2], [3], [4], [4]] (by kernel_rfl) (by rfl) rfl rfl (by kernel_rfl) (fun _ _ _ _ h => h.elim) ?_ ?_
          · refine ⟨?_, ?_, ?_, ?_, ?_, ?_, ?_, trivial⟩
            · intro W2 hw K hK
              go_simp
              exact hK _ _ rfl (Below.refl _ _)
            · intro W2 hw K hK
              have k0 := (cell_of_row _ _ 0 _ _ (0, 0) (HA7.out W2 hw).1.mf).trans rfl
              go_simp
              exact hK _ _ rfl (Below.refl _ _)
            · intro W2 hw K hK
              have hco := (HA7.out W2 hw).2.out (by rw [← HXN.out]; have := HNN.out; omega)
              rw [← HXN.out] at hco
              have HCO := Lib.hid hco
              clear hco
              go_simp
              refine Calls.mono HCO.out ?_
              rintro e3 w8 ⟨_, rfl, A', c', rfl, hr8, hn8, hb8⟩
              exact hK _ _ ⟨A', c', rfl, hr8, fun e => by
                rcases hn8 with ⟨_, h1, h2⟩ | ⟨b', h1, _⟩
                · exact ⟨h2, h1⟩
                · rw [e] at h1; cases h1⟩ hb8
            · rintro W2 hw v2 wb2 wa2 ⟨_, A', c', rfl, hr8, hn8⟩ x2 K hK
              go_simp
              exact hK _ _ ⟨A', c', rfl, hr8.ext (stays_b x2), hn8⟩ (Below.refl _ _)
            · rintro W2 hw v2 wb2 wa2 ⟨_, A', c', rfl, hr8, hn8⟩ x2 K hK
              have HSE := Lib.hid (seal_ok g 3 A' N c' X W2 HN.out.2.2.2.2.1 (by have := HN.out; omega) (by decide) (by decide) (by have := HNN.out; omega) (hr8.ext (stays_b x2)) hn8)
              rw [← HSM.out] at HSE
              go_simp
              refine Calls.mono HSE.out ?_
              rintro e3 w8 ⟨rfl, hb8⟩
              exact hK _ _ rfl hb8
            · intro W2 hw K hK
              go_simp
              exact hK _ _ rfl (Below.refl _ _)
            · intro W2 hw K hK
              go_simp
              exact hK _ _ rfl (Below.refl _ _)
          · intro W2 hw2
            simp only [Behind]
            rintro v2 wb2 wa2 _ _ _ _ v3 wb3 wa3 _ _ _ _
            have HR := Lib.hid (HA7.out W2 hw2).1
            clear hw2
            simp only [List.drop, Act.put, List.setIfInBounds_toArray, List.set_cons_zero, List.set_cons_succ]
            go_wp2_with (first | refine wpList_store_sec rfl (.tmp 2) (.tmp 52) rfl (w.heap.size + 1) rfl (noughts 64) S rfl noughts64 HSL.out HR.out.res ?_)
            refine NoPanic.normal ?_
            go_wp2_with fail
            exact bodyPost_ret (resSl (HR.out.put _).1 HSL.out _ rfl) rfl ⟨rfl, (HR.out.put _).2⟩
end Go.Proofs.Ytjmjehhmkjhalaa
