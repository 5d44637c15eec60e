/- VNoA: put together. -/
import Derived.Test.YtejpjbmbcdgomaaPt35
/- slices.Insert of one more note, anywhere. -/
namespace Go.Proofs.Ytejpjbmbcdgomaa
set_option maxRecDepth 100000
open Go.RowKit

theorem row_mid {l : List Nt} {i : Nat} (hi : i ≤ l.length) (x : Nt) {j : Nat} {u : Value} (hj : (rowV Nt.vals (l.take i ++ x :: l.drop i))[j]? = some u) :
    (j < i * 6 ∧ (rowV Nt.vals (l.take i))[j]? = some u ∧ (rowV Nt.vals l)[j]? = some u) ∨ (i * 6 ≤ j ∧ j < i * 6 + 6 ∧ x.vals[j - i * 6]? = some u) ∨ (i * 6 + 6 ≤ j ∧ (rowV Nt.vals (l.drop i))[j - (i * 6 + 6)]? = some u) := by
  have htl : (rowV Nt.vals (l.take i)).length = i * 6 := by rw [rowV_length Nt.vals 6 Nt.vlen, List.length_take, Nat.min_eq_left hi]
  have e1 : rowV Nt.vals (l.take i ++ x :: l.drop i) = rowV Nt.vals (l.take i) ++ (x.vals ++ rowV Nt.vals (l.drop i)) := by rw [rowV_append]; simp [rowV]
  rw [e1] at hj
  by_cases h1 : j < i * 6
  · rw [List.getElem?_append_left (by rw [htl]; exact h1)] at hj
    refine .inl ⟨h1, hj, ?_⟩
    have e2 : rowV Nt.vals l = rowV Nt.vals (l.take i) ++ rowV Nt.vals (l.drop i) := by rw [← rowV_append, List.take_append_drop]
    rw [e2, List.getElem?_append_left (by rw [htl]; exact h1)]
    exact hj
  · rw [List.getElem?_append_right (by rw [htl]; omega), htl] at hj
    by_cases h2 : j < i * 6 + 6
    · rw [List.getElem?_append_left (by rw [Nt.vlen]; omega)] at hj
      exact .inr (.inl ⟨by omega, h2, hj⟩)
    · rw [List.getElem?_append_right (by rw [Nt.vlen]; omega), Nt.vlen, show j - i * 6 - 6 = j - (i * 6 + 6) by omega] at hj
      exact .inr (.inr ⟨by omega, hj⟩)
theorem own_no {w : World} {B : Nat} {v : Value} {l : List Nt} (h : w.ownsRow B 149 6 v l.length (rowV Nt.vals l)) : NoV w v l := by
  rcases h.2 with ⟨rfl, h0⟩ | ⟨g, c, cur, rfl, _, hg, hnc, hcm, hs, ht⟩
  · exact .inl ⟨rfl, List.eq_nil_of_length_eq_zero h0⟩
  · refine .inr ⟨g, 0, c, rfl, ⟨cur, hg, by rw [hs]; omega⟩, fun j u hj => ?_, hnc, hcm⟩
    rw [Nat.zero_add]
    exact own_cell h j u hj
theorem rdv_nt {w : World} {vb : Nat} {x : Nt} {T : TypeId} (hvb : w.heap[vb]? = some (.cells (Nt.vals x).toArray T (0, 0))) : Rdv w (some ⟨vb, 0, none⟩) 1 6 x.vals := ⟨rfl, fun _ => ⟨vb, 0, rfl, fun j u hj => by
  rw [Nat.zero_add, cell_of_row w vb j _ T (0, 0) hvb]
  simpa using hj⟩⟩
/-- One note more. -/
theorem no_append {W : World} {g off c : Nat} {l : List Nt} (h : NoR W g off c l) (ty : TypeId) (x : Nt) (vb : Nat) {T : TypeId} (hvb : W.heap[vb]? = some (.cells (Nt.vals x).toArray T (0, 0))) (hl : l.length ≤ 100000) :
    ∃ v' W', (Builtin.append_ #[143, 143] ty #[.slice (some ⟨g, off, none⟩) l.length c, .slice (some ⟨vb, 0, none⟩) 1 1]).run Try.prog W = .ok v' W' ∧ NoV W' v' (l ++ [x]) ∧ W.grownBy W' (some g) ∧ ∀ q, v'.ownBlock = some q → some g = some q ∨ W.heap.size ≤ q := by
  obtain ⟨ht, hinfo, ⟨i, z, hi, hz, hzs⟩, hpos⟩ := elemNt
  rw [hi] at hinfo
  simp at hinfo
  have hle := h.le
  have hmx := h.mx
  have hrl : (rowV Nt.vals l).length = l.length * 6 := rowV_length Nt.vals 6 Nt.vlen l
  have hnew : ∀ j u, x.vals[j]? = some u → W.cell? ((⟨vb, 0, none⟩ : Addr).add j) = some u := fun j u hj => by
    rw [addr_plus, Nat.zero_add, cell_of_row W vb j _ _ (0, 0) hvb]
    simpa using hj
  have happ : rowV Nt.vals (l ++ [x]) = rowV Nt.vals l ++ x.vals := by rw [rowV_append]; simp [rowV]
  by_cases hroom : l.length + 1 ≤ c
  · have hr := run_append_room_cells (P := Try.prog) (w := W) 143 ty 149 i ht hi g off l.length c ⟨vb, 0, none⟩ 1 1 x.vals (by rw [hinfo.1]; rfl) hnew (nt1 x) hroom (fun j hj => by
      rw [Nt.vlen] at hj
      rw [hinfo.1, Nat.add_assoc]
      exact h.some (by omega)) (fun j _ => h.frozen _)
    rw [hinfo.1] at hr
    obtain ⟨cur, hcur, hcs⟩ := h.blk
    obtain ⟨cur', k1, k2⟩ := cells_kept g x.vals (off + l.length * 6) W cur hcur
    refine ⟨_, _, hr, .inr ⟨g, off, c, by rw [List.length_append]; rfl, ⟨cur', k1, by omega⟩, fun j u hj => ?_, by rw [List.length_append]; exact hroom, hmx⟩, grown_setCells g _ _ W, fun q e => .inl e⟩
    rw [happ] at hj
    by_cases hjl : j < l.length * 6
    · rw [List.getElem?_append_left (by rw [hrl]; exact hjl)] at hj
      rw [World.cell?_setCells_out _ _ _ _ _ (fun _ _ => .inl (by show off + j < _; omega))]
      exact h.cell j u hj
    · rw [List.getElem?_append_right (by rw [hrl]; omega), hrl] at hj
      have hj6 := (List.getElem?_eq_some_iff.1 hj).1
      have h9 := World.cell?_setCells_in g x.vals (off + l.length * 6) W (fun k hk => by rw [Nt.vlen] at hk; rw [Nat.add_assoc]; exact h.some (by omega)) (j - l.length * 6) hj6
      rw [show off + l.length * 6 + (j - l.length * 6) = off + j by omega] at h9
      rw [h9]
      exact congrArg some (List.getElem?_eq_some_iff.1 hj).2
  · have holds : ∀ j u, (rowV Nt.vals l)[j]? = some u → W.cell? ((⟨g, off, none⟩ : Addr).add j) = some u := fun j u hj => by
      rw [addr_plus]; exact h.cell j u hj
    have hr := run_append_grow (P := Try.prog) W 143 ty 149 i z ht hi hz ⟨g, off, none⟩ l.length c (rowV Nt.vals l) (by rw [hrl, hinfo.1]) holds ⟨vb, 0, none⟩ 1 1 x.vals (by rw [hinfo.1]; rfl) hnew (by omega) (by omega) (growslice_fits (by omega) (by rw [hinfo.2]; omega))
    obtain ⟨gc, hgc⟩ : ∃ gc, gc = grownCap W (l.length + 1) c 149 := ⟨_, rfl⟩
    have hcm : gc ≤ maxLen := by rw [hgc]; exact grownCap_le_maxLen W (l.length + 1) c 149 (by unfold maxLen; omega)
    rw [← hgc] at hr
    have hcl : l.length + 1 ≤ gc := by rw [hgc]; exact grownCap_ge _ _ _ _
    refine ⟨_, _, hr, .inr ⟨W.heap.size, 0, gc, by rw [List.length_append]; rfl, ⟨_, heap_alloc_new W.drew _, ?_⟩, fun j u hj => ?_, by rw [List.length_append]; exact hcl, hcm⟩, grown_below (((Below.refl _ W).drew).alloc (Nat.le_refl _) _) _, fun q e => .inr (Nat.le_of_eq (by simpa [Value.ownBlock] using e))⟩
    · simp only [Array.size_append, List.size_toArray, size_zeroCells, hzs, hrl, Nt.vlen]
      simp
      omega
    · have hbk : (W.drew.alloc (.cells ((rowV Nt.vals l).toArray ++ x.vals.toArray ++ Builtin.zeroCells z.cells (gc - (l.length + 1))) 149)).heap[W.heap.size]? = some (.cells ((rowV Nt.vals l).toArray ++ x.vals.toArray ++ Builtin.zeroCells z.cells (gc - (l.length + 1))) 149 (0, 0)) := heap_alloc_new W.drew _
      rw [cell_of_row _ _ _ _ _ (0, 0) hbk]
      rw [happ] at hj
      have hjl := (List.getElem?_eq_some_iff.1 hj).1
      have e : ((rowV Nt.vals l).toArray ++ x.vals.toArray) = (rowV Nt.vals l ++ x.vals).toArray := by simp
      rw [e, Nat.zero_add, Array.getElem?_append_left (by simpa using hjl)]
      simpa using hj
set_option maxHeartbeats 2000000 in
/-- At the end. -/
theorem insert_endNo {w : World} {g off n c : Nat} {l : List Nt} (h : NoR w g off c l) (hl : l.length = n) (hn : n ≤ 100000) (x : Nt) (vb : Nat) {T : TypeId} (hvb : w.heap[vb]? = some (.cells (Nt.vals x).toArray T (0, 0))) :
    Calls Try.prog 105 #[.slice (some ⟨g, off, none⟩) n c, .int .i64 (n : Int), .slice (some ⟨vb, 0, none⟩) 1 1] w fun e w' => ∃ v', e = .returned v' ∧ NoV w' v' (l ++ [x]) ∧ w.grownBy w' (some g) ∧ ∀ q, v'.ownBlock = some q → some g = some q ∨ w.heap.size ≤ q := by
  have hnc : n ≤ c := by have := h.le; omega
  have hc63 : c ≤ 9223372036854775807 := by have := h.mx; unfold maxLen at this; omega
  have er : ((n : Int) == (n : Int)) = true := by simp
  have HA : Hid (∀ ty, ∃ v' W', (Builtin.append_ #[143, 143] ty #[.slice (some ⟨g, off, none⟩) n c, .slice (some ⟨vb, 0, none⟩) 1 1]).run Try.prog w = .ok v' W' ∧ NoV W' v' (l ++ [x]) ∧ w.grownBy W' (some g) ∧ ∀ q, v'.ownBlock = some q → some g = some q ∨ w.heap.size ≤ q) := Lib.hid fun ty => by
    rw [← hl]
    exact no_append h ty x vb hvb (by omega)
  clear h hl hvb
  by_cases hcn : c = n
  · subst hcn
    go_enter Try.func105, Try.ntmps105
    obtain ⟨v', W', h1, h2⟩ := HA.out 143
    have H2 := Lib.hid h2
    clear h2
    go_wp2_with (at_builtin; refine Lib.wpList_append_run _ rfl _ _ _ _ rfl _ _ rfl rfl _ _ h1 ?_)
    go_ret
    exact ⟨_, rfl, H2.out⟩
  · go_enter Try.func105, Try.ntmps105
    obtain ⟨v', W', h1, h2⟩ := HA.out 143
    have H2 := Lib.hid h2
    clear h2
    go_wp2_with (at_builtin; refine Lib.wpList_append_run _ rfl _ _ _ _ rfl _ _ rfl rfl _ _ h1 ?_)
    go_ret
    exact ⟨_, rfl, H2.out⟩
/-- One note more, anywhere. -/
theorem insert_anyNt {w : World} {v : Value} {l : List Nt} (h : NoV w v l) (i : Nat) (hi : i ≤ l.length) (hn : l.length ≤ 100000) (x : Nt) (vb : Nat) {T : TypeId} (hvb : w.heap[vb]? = some (.cells (Nt.vals x).toArray T (0, 0))) (hne : v.ownBlock ≠ some vb) :
    Calls Try.prog 105 #[v, .int .i64 (i : Int), .slice (some ⟨vb, 0, none⟩) 1 1] w fun e w' => ∃ v', e = .returned v' ∧ NoV w' v' (l.take i ++ x :: l.drop i) ∧ w.grownBy w' v.ownBlock ∧ ∀ q, v'.ownBlock = some q → v.ownBlock = some q ∨ w.heap.size ≤ q := by
  rcases h with ⟨rfl, rfl⟩ | ⟨g, off, c, rfl, h⟩
  · obtain rfl : i = 0 := by simpa using hi
    refine Calls.mono (insert_end (w := w) (B := 0) (NS := []) (x := x) (b := vb) (c2 := 1) (World.ownsRow_nil _ _ _ _) (rdv_nt hvb) (by decide) (Nat.zero_le _)) ?_
    rintro e w' ⟨v', rfl, ho, hg, hq⟩
    exact ⟨v', rfl, own_no ho, hg, hq⟩
  · by_cases hin : i = l.length
    · rw [hin, List.take_length, List.drop_length]
      exact insert_endNo h rfl hn x vb hvb
    · have hlt : i < l.length := by omega
      have hne' : vb ≠ g := fun e => hne (by rw [e]; rfl)
      have hdl : (rowV Nt.vals (l.drop i)).length = (l.length - i) * 6 := by rw [rowV_length Nt.vals 6 Nt.vlen, List.length_drop]
      have htl : (rowV Nt.vals (l.take i)).length = i * 6 := by rw [rowV_length Nt.vals 6 Nt.vlen, List.length_take, Nat.min_eq_left hi]
      have hlen : (l.take i ++ x :: l.drop i).length = l.length + 1 := by simp; omega
      have hx6 := Nt.vlen x
      by_cases hroom : l.length + 1 ≤ c
      · refine Calls.mono (insert_roomNt h rfl i hlt hroom x vb hvb hne' 1 rfl) ?_
        rintro e w' ⟨rfl, rfl⟩
        obtain ⟨cur, hcur, hcs⟩ := h.blk
        obtain ⟨cu1, k1, k2⟩ := cells_kept g (rowV Nt.vals (l.drop i)) (off + (i + 1) * 6) w.drew cur hcur
        obtain ⟨cu2, k3, k4⟩ := cells_kept g (Nt.vals x) (off + i * 6) _ cu1 k1
        have hs1 : ∀ j, j < c * 6 → ((w.drew.setCells g (off + (i + 1) * 6) (rowV Nt.vals (l.drop i))).cell? ⟨g, off + j, none⟩).isSome = true := fun j hj => by
          rw [cell_of_row _ g _ _ _ (0, 0) k1, Array.getElem?_eq_getElem (by omega)]
          rfl
        refine ⟨_, rfl, .inr ⟨g, off, c, by rw [hlen], ⟨cu2, k3, by omega⟩, fun j u hj => ?_, by rw [hlen]; exact hroom, h.mx⟩, grown_trans (grown_drewN w _ 1) (grown_trans (grown_setCells g _ _ _) (grown_setCells g _ _ _)), fun q e => .inl e⟩
        rcases row_mid hi x hj with ⟨j1, _, j3⟩ | ⟨j1, j2, j3⟩ | ⟨j1, j2⟩
        · rw [World.cell?_setCells_out _ _ _ _ _ (fun _ _ => .inl (by show off + j < _; omega)), World.cell?_setCells_out _ _ _ _ _ (fun _ _ => .inl (by show off + j < _; omega))]
          exact h.cell j u j3
        · have h9 := World.cell?_setCells_in g x.vals (off + i * 6) _ (fun k hk => by rw [Nat.add_assoc]; exact hs1 _ (by omega)) (j - i * 6) (by omega)
          rw [show off + i * 6 + (j - i * 6) = off + j by omega] at h9
          rw [h9]
          exact congrArg some (List.getElem?_eq_some_iff.1 j3).2
        · rw [World.cell?_setCells_out _ _ _ _ _ (fun _ _ => .inr (by show _ ≤ off + j; omega))]
          have hjl := (List.getElem?_eq_some_iff.1 j2).1
          have h9 := World.cell?_setCells_in g (rowV Nt.vals (l.drop i)) (off + (i + 1) * 6) w.drew (fun k hk => by rw [Nat.add_assoc]; exact h.some (by omega)) (j - (i * 6 + 6)) hjl
          rw [show off + (i + 1) * 6 + (j - (i * 6 + 6)) = off + j by omega] at h9
          rw [h9]
          exact congrArg some (List.getElem?_eq_some_iff.1 j2).2
      · refine Calls.mono (insert_growNt h rfl i hlt hn (by omega) x vb hvb 1 rfl) ?_
        rintro e w' ⟨rfl, rfl⟩
        have hGn : l.length + 1 ≤ grownCap w (l.length + 1) c 149 := grownCap_ge w _ _ _
        have hGm : grownCap w (l.length + 1) c 149 ≤ maxLen := grownCap_le_maxLen w (l.length + 1) c 149 (by unfold maxLen; omega)
        obtain ⟨G, hG⟩ : ∃ G, G = grownCap w (l.length + 1) c 149 := ⟨_, rfl⟩
        rw [← hG] at hGn hGm ⊢
        obtain ⟨ROW, hROW⟩ : ∃ ROW : Array Value, ROW = (rowV Nt.vals (l.take i)).toArray ++ Builtin.zeroCells (Value.agg #[.int .i64 0, .int .i64 0, .int .i64 0, .int .i64 0, .bool false, .bool false]).cells (l.length + 1 - i) ++ Builtin.zeroCells (Value.agg #[.int .i64 0, .int .i64 0, .int .i64 0, .int .i64 0, .bool false, .bool false]).cells (G - (l.length + 1)) := ⟨_, rfl⟩
        rw [← hROW]
        have hs : ROW.size = G * 6 := by
          rw [hROW]
          simp [size_zeroCells, Value.cells, htl]
          omega
        have hR0 : ∀ j u, (rowV Nt.vals (l.take i))[j]? = some u → ROW[j]? = some u := fun j u hj => by
          have hjl := (List.getElem?_eq_some_iff.1 hj).1
          rw [hROW, Array.getElem?_append_left (by simp; omega), Array.getElem?_append_left (by simpa using hjl)]
          simpa using hj
        clear hROW
        obtain ⟨W1, hW1⟩ : ∃ W1, W1 = (w.alloc (.cells ROW 149)).drew := ⟨_, rfl⟩
        rw [← hW1]
        have hB : Below w.heap.size w W1 := by rw [hW1]; exact (((Below.refl _ w).alloc (Nat.le_refl _) _)).drew
        have hN1 : W1.heap[w.heap.size]? = some (.cells ROW 149 (0, 0)) := by rw [hW1]; exact heap_alloc_new w _
        obtain ⟨cu1, k1, k2⟩ := cells_kept w.heap.size (Nt.vals x) (i * 6) W1 ROW hN1
        have hg1 := grown_setCells w.heap.size (Nt.vals x) (i * 6) W1
        have hc1 : ∀ j, j < i * 6 → (W1.setCells w.heap.size (i * 6) (Nt.vals x)).cell? ⟨w.heap.size, j, none⟩ = ROW[j]? := fun j hj => by
          rw [World.cell?_setCells_out w.heap.size (Nt.vals x) (i * 6) W1 ⟨w.heap.size, j, none⟩ (fun _ _ => .inl hj), cell_of_row _ _ j _ _ (0, 0) hN1]
        have hc2 : ∀ j u, i * 6 ≤ j → x.vals[j - i * 6]? = some u → (W1.setCells w.heap.size (i * 6) (Nt.vals x)).cell? ⟨w.heap.size, j, none⟩ = some u := fun j u j1 j3 => by
          have hjl := (List.getElem?_eq_some_iff.1 j3).1
          have h9 := World.cell?_setCells_in w.heap.size x.vals (i * 6) W1 (fun k hk => by rw [cell_of_row _ _ _ _ _ (0, 0) hN1, Array.getElem?_eq_getElem (by omega)]; rfl) (j - i * 6) hjl
          rw [show i * 6 + (j - i * 6) = j by omega] at h9
          rw [h9]
          exact congrArg some (List.getElem?_eq_some_iff.1 j3).2
        have hdr : ∀ (Z : World) (a : Addr), Z.drew.cell? a = Z.cell? a := fun _ _ => rfl
        obtain ⟨Z, hZ⟩ : ∃ Z, Z = W1.setCells w.heap.size (i * 6) (Nt.vals x) := ⟨_, rfl⟩
        rw [← hZ] at k1 hg1 hc1 hc2 ⊢
        have k1d : Z.drew.heap[w.heap.size]? = some (.cells cu1 149 (0, 0)) := k1
        obtain ⟨cu2, k3, k4⟩ := cells_kept w.heap.size (rowV Nt.vals (l.drop i)) ((i + 1) * 6) Z.drew cu1 k1d
        have hb : Below w.heap.size w Z := hB.trans (below_grown2 hg1 (Nat.le_refl _) hB.size)
        clear hZ
        refine ⟨_, rfl, .inr ⟨w.heap.size, 0, G, by rw [hlen], ⟨cu2, k3, by omega⟩, fun j u hj => ?_, by rw [hlen]; exact hGn, hGm⟩, ?_, fun q e => .inr (Nat.le_of_eq (by simpa [Value.ownBlock] using e))⟩
        · rw [Nat.zero_add]
          rcases row_mid hi x hj with ⟨j1, j2, _⟩ | ⟨j1, j2, j3⟩ | ⟨j1, j2⟩
          · rw [World.cell?_setCells_out w.heap.size _ ((i + 1) * 6) Z.drew ⟨w.heap.size, j, none⟩ (fun _ _ => .inl (Nat.lt_of_lt_of_le j1 (Nat.mul_le_mul_right 6 (Nat.le_succ i)))), hdr, hc1 j j1]
            exact hR0 j u j2
          · rw [World.cell?_setCells_out w.heap.size _ ((i + 1) * 6) Z.drew ⟨w.heap.size, j, none⟩ (fun _ _ => .inl (show j < (i + 1) * 6 by omega)), hdr]
            exact hc2 j u j1 j3
          · have hjl := (List.getElem?_eq_some_iff.1 j2).1
            have h9 := World.cell?_setCells_in w.heap.size (rowV Nt.vals (l.drop i)) ((i + 1) * 6) Z.drew (fun k hk => by rw [cell_of_row _ _ _ _ _ (0, 0) k1d, Array.getElem?_eq_getElem (by omega)]; rfl) (j - (i * 6 + 6)) hjl
            rw [show (i + 1) * 6 + (j - (i * 6 + 6)) = j by omega] at h9
            rw [h9]
            exact congrArg some (List.getElem?_eq_some_iff.1 j2).2
        · have hg2 := grown_setCells w.heap.size (rowV Nt.vals (l.drop i)) ((i + 1) * 6) Z.drew
          exact grown_below ((Below.drew hb).trans (below_grown2 hg2 (Nat.le_refl _) hb.size)) _
end Go.Proofs.Ytejpjbmbcdgomaa
