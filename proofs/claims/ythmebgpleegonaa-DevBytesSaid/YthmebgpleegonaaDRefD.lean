/- The document's sectors behind writes. -/
import Derived.Test.YthmebgpleegonaaDRefO
namespace Go.Proofs.Ythmebgpleegonaa
set_option maxRecDepth 100000
open Go.RowKit

def secsF (f : Int → Sx) (n : Nat) : List Sx := (List.range n).map fun (i : Nat) => f (i : Int)
theorem secsF_length (f : Int → Sx) (n : Nat) : (secsF f n).length = n := by simp [secsF]
theorem secsF_get (f : Int → Sx) (n i : Nat) (h : i < (secsF f n).length) : (secsF f n)[i] = f (i : Int) := by simp [secsF]
theorem secsF_upd (f : Int → Sx) (n k : Nat) (x : Sx) : secsF (upd f (k : Int) x) n = (secsF f n).set k x := by
  refine List.ext_getElem (by rw [List.length_set, secsF_length, secsF_length]) fun i h1 h2 => ?_
  rw [List.getElem_set, secsF_get, secsF_get]
  unfold upd
  by_cases e : i = k
  · rw [if_pos (by omega), if_pos e.symm]
  · rw [if_neg (fun h => e (by omega)), if_neg (fun h => e h.symm)]
/-- A sector is stored in an own row. -/
theorem storeVar_row {w : World} {B g n c : Nat} {xs : List Value} (h : w.ownsRow B 50 64 (.slice (some ⟨g, 0, none⟩) n c) n xs) (o : Nat) (ho : o + 64 ≤ xs.length) (x : Sx) :
    ∃ w', (storeVar 50 ⟨g, o, none⟩ x.val).run Try.prog w = .ok () w' ∧ w'.ownsRow B 50 64 (.slice (some ⟨g, 0, none⟩) n c) n (setL xs o x.vals) ∧ w.grownBy w' (some g) := by
  obtain ⟨h2, h3⟩ := own_setCells x.vals o h
  refine ⟨_, ?_, h2, h3⟩
  have hst := run_storeCells_cells (P := Try.prog) g o x.vals 0 w (fun j hj => by
      rw [x.vlen] at hj
      rw [own_cell h _ _ (List.getElem?_eq_getElem (show o + 0 + j < xs.length by omega))]
      rfl) (fun j _ => own_frozen h _) x.one
  rw [Nat.add_zero] at hst
  cases hq : Try.prog.info? 50 with
  | none => have := info50; rw [hq] at this; cases this
  | some i =>
    have hs : i.size = 64 := by have := info50; rw [hq] at this; simpa using this
    unfold Sx.val
    simp [storeVar, sizeOf, typeInfo, hq, Value.cells, hs, x.size]
    rw [x.toList]
    exact hst
set_option maxHeartbeats 4000000 in
theorem done_any (d : Dk) (A : Option Addr) (c : Nat) (A2 : Option Addr) (c2 : Nat) (w : World) (X : Nat → Prop) (h : RDok w X ⟨A, c, d, A2, c2⟩) (hsz : d.size ≤ 4096) (hn : d.waits.length ≤ 1000000) (hin : ∀ y ∈ d.waits, 0 ≤ y.i ∧ y.i < (d.size : Int)) :
    Calls Try.prog 45 #[.slice A d.size c, .slice A2 d.waits.length c2] w fun e w' => ∃ b c', e = .returned (.slice (some ⟨b, 0, none⟩) d.size c') ∧ RowAt Sx.vals 64 w' (some ⟨b, 0, none⟩) d.size (secs d.flushed) ∧ w.heap.size ≤ b ∧ b < w'.heap.size ∧ Below w.heap.size w w' := by
  have hA := h.sec.row
  have hW := h.wts.row
  have hnil := h.n1
  simp only [] at hA hW hnil
  obtain ⟨sz, hs⟩ : ∃ sz, sz = d.size := ⟨_, rfl⟩
  obtain ⟨n, hnn⟩ : ∃ n, n = d.waits.length := ⟨_, rfl⟩
  have HN := Lib.hid hnn
  have HSZ := Lib.hid hs
  have HIN := Lib.hid hin
  have HW := Lib.hid hW
  have HA0 := Lib.hid hA
  have HNIL := Lib.hid hnil
  rw [← hs] at HA0 hsz ⊢
  rw [← hnn] at HW hn ⊢
  have HBW := Lib.hid (show 0 < n → ∃ bw ow, A2 = some ⟨bw, ow, none⟩ ∧ bw < w.heap.size from fun h0 => by
    obtain ⟨bw, ow, e, hc⟩ := HW.out.2 h0
    have h1 : 0 < (rowV Wx.vals d.waits).length := by rw [rowV_length Wx.vals 65 Wx.vlen]; omega
    exact ⟨bw, ow, e, World.block_lt_of_cell? _ _ (hc 0 _ (List.getElem?_eq_getElem h1))⟩)
  clear hA hW hnil hs hnn hin h
  go_enter Try.func45, Try.ntmps45
  go_upto_region 2 with (refine wpList_append_copy elemRS rfl (.tmp 7) (.tmp 8) rfl rfl A sz c (rowV Sx.vals (secs d)) rfl HA0.out (rowSx_one _) HNIL.out (by unfold maxLen; omega) (by omega) ?_; intro b1 c1 w1 hown hb1 hbl; have HOWN := Lib.hid hown; have HBL := Lib.hid hbl; clear hown hbl)
  go_wp2_with fail
  go_loopw [6] (fun i wr => ∃ q : Nat, i = .int .i64 (q : Int) ∧ q ≤ n ∧ wr.ownsRow w.heap.size 50 64 (.slice (some ⟨b1, 0, none⟩) sz c1) sz (rowV Sx.vals (secsF (foldW d.sure (d.waits.take q)) sz)) ∧ Below w.heap.size w wr) (fun i _ => n - (intOf i).toNat)
  case atStart =>
    refine ⟨0, rfl, by omega, ?_, HBL.out⟩
    have e : secsF (foldW d.sure (d.waits.take 0)) sz = secs d := by rw [HSZ.out]; rfl
    rw [e]
    exact HOWN.out
  case round =>
    obtain ⟨q, rfl, hq, ho, hb⟩ := hrel
    have HO := Lib.hid ho
    have HB := Lib.hid hb
    clear ho hb
    by_cases hlt : q < n
    · have hql : q < d.waits.length := by rw [← HN.out]; exact hlt
      obtain ⟨bw, ow, rfl, hbw⟩ := HBW.out (by omega)
      obtain ⟨y, hy⟩ : ∃ y, y = d.waits[q] := ⟨_, rfl⟩
      have HY := Lib.hid hy
      obtain ⟨k, hk⟩ : ∃ k : Nat, y.i = (k : Int) := ⟨y.i.toNat, by have := HIN.out y (by rw [hy]; exact List.getElem_mem hql); omega⟩
      have hks : k < sz := by have := HIN.out y (by rw [hy]; exact List.getElem_mem hql); have := HSZ.out; omega
      have HK := Lib.hid hk
      obtain ⟨x, hx⟩ : ∃ x, x = y.x := ⟨_, rfl⟩
      have hay : ∀ W2, Below wr.drew.heap.size wr.drew W2 → W2.cell? ⟨bw, ow + q * 65, none⟩ = some (.int .i64 (k : Int)) ∧ (loadVar 50 ⟨bw, ow + q * 65 + 1, none⟩).run Try.prog W2 = .ok x.val W2 := fun W2 hw => by
        have hbz : Below w.heap.size w W2 := HB.out.trans (((Below.refl _ wr).drew.trans hw).mono HB.out.size)
        have hr2 : Rdv W2 (some ⟨bw, ow, none⟩) n 65 (rowV Wx.vals d.waits) := HW.out.ext fun p hp => hbz.cell hp
        obtain ⟨b', o', e, hc⟩ := hr2.2 (by omega)
        injection e with e
        injection e with e1 e2
        subst e1 e2
        have ha := at_row Wx.vlen hc q hql
        rw [← hy] at ha
        have a0 := ha 0 _ rfl
        rw [hk] at a0
        refine ⟨a0, load_sx fun r u hr => ?_⟩
        have := ha (r + 1) u (by rw [hx] at hr; exact hr)
        rwa [show ow + q * 65 + (r + 1) = ow + q * 65 + 1 + r by omega] at this
      have HA := Lib.hid hay
      have hk2 : (k : Int) < (sz : Int) := by omega
      have HX := Lib.hid hx
      clear hy hk hay hx
      go_upto_region 5 with fail
      refine wp_region_noPanic ?_
      refine wp_region_abs 12 29 [
        .is (.slice (some ⟨b1, 0, none⟩) sz c1),
        .is (.slice (some ⟨bw, ow, none⟩) n c2),
        .is (.int .i64 (q : Int)),
        .is (.pointer (some ⟨bw, ow + q * 65, none⟩)),
        .is (.pointer (some ⟨bw, ow + q * 65, none⟩)),
        .is (.int .i64 (k : Int)),
        .is (.slice (some ⟨bw, ow, none⟩) n c2),
        .is (.int .i64 (q : Int)),
        .is (.pointer (some ⟨bw, ow + q * 65, none⟩)),
        .is (.pointer (some ⟨bw, ow + q * 65 + 1, none⟩)),
        .is x.val,
        .is (.pointer (some ⟨b1, k * 64, none⟩))]
        [16, 17, 18, 19, 20, 21, 22, 23, 24, 25, 26, 27]
        [[], [], [], [1, 2], [3], [4], [], [], [6, 7], [8], [9], [0, 5]] (by kernel_rfl) (by rfl) rfl rfl (by kernel_rfl) (fun _ _ _ _ h => h.elim) ?_ ?_
      · refine ⟨?_, ?_, ?_, ?_, ?_, ?_, ?_, ?_, ?_, ?_, ?_, ?_, trivial⟩
        · intro W2 hw K hK
          go_simp
          exact hK _ _ rfl (Below.refl _ _)
        · intro W2 hw K hK
          go_simp
          exact hK _ _ rfl (Below.refl _ _)
        · intro W2 hw K hK
          go_simp
          exact hK _ _ rfl (Below.refl _ _)
        · intro W2 hw K hK
          go_simp
          exact hK _ _ rfl (Below.refl _ _)
        · intro W2 hw K hK
          go_simp
          exact hK _ _ rfl (Below.refl _ _)
        · intro W2 hw K hK
          obtain ⟨e0, _⟩ := HA.out W2 hw
          go_simp
          exact hK _ _ rfl (Below.refl _ _)
        · intro W2 hw K hK
          go_simp
          exact hK _ _ rfl (Below.refl _ _)
        · intro W2 hw K hK
          go_simp
          exact hK _ _ rfl (Below.refl _ _)
        · intro W2 hw K hK
          go_simp
          exact hK _ _ rfl (Below.refl _ _)
        · intro W2 hw K hK
          go_simp
          exact hK _ _ rfl (Below.refl _ _)
        · intro W2 hw K hK
          obtain ⟨_, e0⟩ := HA.out W2 hw
          exact (arm_load (b := bw) (off := ow + q * 65 + 1) (.tmp 25) rfl rfl (by kernel_rfl) x.val e0 (hK _ _ rfl (Below.refl _ _))).out
        · intro W2 hw K hK
          go_simp
          exact hK _ _ rfl (Below.refl _ _)
      · intro W2 hw2
        simp only [Behind, List.drop, Act.put, List.setIfInBounds_toArray, List.set_cons_zero, List.set_cons_succ]
        have hb2 : Below wr.heap.size wr W2 := (Below.refl _ wr).drew.trans hw2
        have hlx : (rowV Sx.vals (secsF (foldW d.sure (d.waits.take q)) sz)).length = sz * 64 := by rw [rowV_length Sx.vals 64 Sx.vlen, secsF_length]
        have hlt1 := (own_lt HO.out).2.1
        have hgb := (own_lt HO.out).1
        obtain ⟨w3, hrun, hown3, hg3⟩ := storeVar_row (own_same (w' := W2) HO.out (fun p e => by
          have e2 : p = b1 := (Option.some.inj e).symm
          rw [e2]
          exact hb2.block _ hlt1)) (k * 64) (by rw [hlx]; omega) x
        rw [rowV_set Sx.vlen (by decide) _ k (by rw [secsF_length]; exact hks), ← secsF_upd, ← HK.out, HX.out, HY.out, ← foldW_succ _ _ _ (by rw [← HN.out]; exact hlt)] at hown3
        have HO3 := Lib.hid hown3
        have HB3 := Lib.hid ((HB.out.trans (hb2.mono HB.out.size)).trans (below_grown2 hg3 hgb (by have := HB.out.size; have := hb2.size; omega)))
        clear hw2 hb2 hown3 hg3 HA hlx hlt1 hgb
        go_wp2_with (refine wpList_store_val rfl (.tmp 27) (.tmp 26) rfl rfl x.val rfl hrun ?_)
        refine NoPanic.normal ?_
        go_wp2_with fail
        go_roundw
        case rel => exact ⟨q + 1, by go_num, by omega, HO3.out, HB3.out⟩
        case measure => simp [intOf]; omega
    · obtain rfl : q = n := by omega
      go_wp2_with fail
      go_ret
      refine ⟨b1, c1, rfl, ?_, hb1, (own_lt HO.out).2.1, HB.out⟩
      have e : secsF (foldW d.sure (d.waits.take q)) sz = secs d.flushed := by rw [HN.out, List.take_length, HSZ.out]; rfl
      have ho := HO.out
      rw [e] at ho
      exact rowat_own ho (by rw [secs_length]; exact HSZ.out.symm)
end Go.Proofs.Ythmebgpleegonaa
