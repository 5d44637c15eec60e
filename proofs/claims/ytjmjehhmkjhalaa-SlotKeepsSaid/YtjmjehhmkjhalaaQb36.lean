/- LRefOpen: put together. -/
import Derived.Test.YtjmjehhmkjhalaaQb35
/- The contract of the document's Open. -/
namespace Go.Proofs.Ytjmjehhmkjhalaa
set_option maxRecDepth 100000
open Go.RowKit

/-- The world of the document's Open: the sector, the result, the slab on the way and its data. -/
structure RO (w w1 : World) (l : List Nat) (st kd : Nat) (v : Value) (ds : List Nat) : Prop where
  box : Sec w1 w.heap.size l
  res : Ar w1 (w.heap.size + 1) 0 0 (.slice none 0 0)
  x : Ar w1 (w.heap.size + 1 + 1) (st : Int) (kd : Int) v
  own : OwnB w1 (w.heap.size + 3) v ds
  below : Below w.heap.size w w1
  size : w.heap.size + 3 ≤ w1.heap.size
theorem Ar.fr {w : World} {g : Nat} {a k : Int} {S : Value} (h : Ar w g a k S) (j : Nat) : w.frozen? ⟨g, j, none⟩ = false := by
  unfold Ar at h
  simp [World.frozen?, h]
theorem Ar.lt0 {w : World} {g : Nat} {a k : Int} {S : Value} (h : Ar w g a k S) : g < w.heap.size := (Array.getElem?_eq_some_iff.1 h).1
theorem Ar.set0 {w : World} {g : Nat} {a k : Int} {S : Value} (h : Ar w g a k S) (b : Int) : Ar (w.setCell ⟨g, 0, none⟩ (.int .i64 b)) g b k S := by
  unfold Ar at h ⊢
  simp [World.setCell, Array.getElem?_modify, h]
theorem Ar.set2 {w : World} {g : Nat} {a k : Int} {S : Value} (h : Ar w g a k S) (S' : Value) : Ar (w.setCell ⟨g, 2, none⟩ S') g a k S' := by
  unfold Ar at h ⊢
  simp [World.setCell, Array.getElem?_modify, h]
theorem OwnB.set {w : World} {B : Nat} {v : Value} {ds : List Nat} (h : OwnB w B v ds) (p : Addr) (u : Value) (hp : p.block < B) : OwnB (w.setCell p u) B v ds :=
  row_stays h (fun k hk => Deep.blk_setCell_other w p u k (by have := (h.lt k hk).1; omega))
theorem RO.stamp {w w1 : World} {l : List Nat} {st kd : Nat} {v : Value} {ds : List Nat} (h : RO w w1 l st kd v ds) (a : Nat) : RO w (w1.drew.setCell ⟨w.heap.size + 1 + 1, 0, none⟩ (.int .i64 (a : Int))) l a kd v ds where
  box := (show Sec w1.drew _ _ from h.box).other _ _ (by show w.heap.size ≠ w.heap.size + 1 + 1; omega)
  res := (show Ar w1.drew _ _ _ _ from h.res).other _ _ (by show w.heap.size + 1 ≠ w.heap.size + 1 + 1; omega)
  x := (show Ar w1.drew _ _ _ _ from h.x).set0 _
  own := OwnB.set (show OwnB w1.drew _ _ _ from h.own) _ _ (by show w.heap.size + 1 + 1 < w.heap.size + 3; omega)
  below := h.below.drew.setCell (by show w.heap.size ≤ w.heap.size + 1 + 1; omega) _
  size := by rw [World.size_setCell]; exact h.size
/-- A byte is appended to the data. -/
theorem RO.grow {w w1 w2 : World} {l : List Nat} {st kd : Nat} {v v' : Value} {ds : List Nat} {y : Nat} (h : RO w w1 l st kd v ds) (hb : Below (w.heap.size + 3) w1 w2) (ho : OwnB w2 (w.heap.size + 3) v' (ds ++ [y])) : RO w (w2.setCell ⟨w.heap.size + 1 + 1, 2, none⟩ v') l st kd v' (ds ++ [y]) where
  box := (show Sec w2 _ _ from (hb.block _ (by omega)).trans h.box).other _ _ (by show w.heap.size ≠ w.heap.size + 1 + 1; omega)
  res := (show Ar w2 _ _ _ _ from (hb.block _ (by omega)).trans h.res).other _ _ (by show w.heap.size + 1 ≠ w.heap.size + 1 + 1; omega)
  x := (show Ar w2 _ _ _ _ from (hb.block _ (by omega)).trans h.x).set2 _
  own := OwnB.set ho _ _ (by show w.heap.size + 1 + 1 < w.heap.size + 3; omega)
  below := (h.below.trans (hb.mono (by omega))).setCell (by show w.heap.size ≤ w.heap.size + 1 + 1; omega) _
  size := by rw [World.size_setCell]; exact Nat.le_trans h.size hb.size
theorem RO.old {w w1 w2 : World} {l : List Nat} {st kd : Nat} {v : Value} {ds : List Nat} (h : RO w w1 l st kd v ds) (hb : Below w1.heap.size w1 w2) : RO w w2 l st kd v ds where
  box := h.box.old hb
  res := h.res.old hb (by have := h.size; omega)
  x := h.x.old hb (by have := h.size; omega)
  own := row_stays h.own (fun k hk => hb.block k (h.own.lt k hk).2)
  below := h.below.trans (hb.mono h.below.size)
  size := Nat.le_trans h.size hb.size
theorem ofLE_drop (l : List Nat) (i : Nat) (h : i < l.length) : ofLE (l.drop i) = l.getD i 0 + 256 * ofLE (l.drop (i + 1)) := by
  rw [List.drop_eq_getElem_cons h]
  simp [ofLE, List.getD_eq_getElem?_getD, List.getElem?_eq_getElem h]
theorem rdv_byte (w : World) (x : Nat) : Rdv (w.alloc (.cells #[.int .u8 (x : Int)] 5)) (some ⟨w.heap.size, 0, none⟩) 1 1 (valsB [x]) := by
  refine ⟨rfl, fun _ => ⟨_, _, rfl, fun j u hj => ?_⟩⟩
  rw [cell_of_row _ _ _ _ 5 (0, 0) (heap_alloc_new w (.cells #[.int .u8 (x : Int)] 5 (0, 0)))]
  rw [Nat.zero_add]
  exact (show (#[Value.int .u8 (x : Int)])[j]? = (valsB [x])[j]? by simp [valsB]).trans hj
/-- What the document's Open answers. -/
def RefOpenE (l : List Nat) (e : Ending) (w' : World) : Prop :=
  (openN l = none ∧ e = .returned (.tuple #[.agg #[.int .i64 0, .int .i64 0, .slice none 0 0], .bool false])) ∨
  ∃ (st kd : Nat) (d : List Nat) (A : Option Addr) (c : Nat), openN l = some (st, kd, d) ∧ e = .returned (.tuple #[.agg #[.int .i64 (st : Int), .int .i64 (kd : Int), .slice A d.length c], .bool true]) ∧ Rdv w' A d.length 1 (valsB d) ∧ (A = none → c = 0) ∧ d.length ≤ c ∧ (A = none ∨ ∃ b, A = some ⟨b, 0, none⟩ ∧ b < w'.heap.size)
theorem openN_iff {l : List Nat} (hl : l.length = 64) (hs : ∀ x ∈ l, x < 256) (st kd m : Nat) (d : List Nat) (hst : st = ofLE (l.take 6)) (hkd : kd = l.getD 6 0) (hm : m = l.getD 7 0) (hd : d = (l.drop 8).take (min m 50)) :
    (openN l = none ∧ ¬ (1 ≤ st ∧ 1 ≤ kd ∧ sealN st kd d = l)) ∨ (openN l = some (st, kd, d) ∧ 1 ≤ st ∧ 1 ≤ kd ∧ sealN st kd d = l) := by
  have hd50 : d.length ≤ 50 := by rw [hd, List.length_take]; omega
  have hst48 : st < 281474976710656 := by rw [hst]; exact ofLE_lt48 l hl hs 0
  cases h : openN l with
  | none =>
    refine .inl ⟨rfl, fun ⟨h1, h2, h3⟩ => ?_⟩
    have := openN_sealN st kd d h1 hst48 h2 hd50
    rw [h3, h] at this
    cases this
  | some r =>
    obtain ⟨a, k, e⟩ := r
    obtain ⟨h1, _, h3, _, _, _, h7⟩ := openN_some hl hs h
    unfold openN at h
    dsimp only at h
    split at h
    · rename_i hc
      injection h with h
      injection h with e1 h
      injection h with e2 e3
      have hm50 : m ≤ 50 := by rw [hm]; exact hc.2.2.2.1
      have ed : d = e := by rw [hd, ← e3, ← hm, Nat.min_eq_left hm50]
      have ea : st = a := by rw [hst, e1]
      have ek : kd = k := by rw [hkd, e2]
      subst ed ea ek
      exact .inr ⟨rfl, h1, h3, h7.symm⟩
    · cases h
theorem res44 {w : World} {g : Nat} {a b : Int} {c : Value} (h : Ar w g a b c) (tmps : Array Value) (h2 : tmps.getD 2 undef = .pointer (some ⟨g, 0, none⟩)) :
    (results Try.f123 tmps).run Try.prog w = .ok (.tuple #[.agg #[.int .i64 a, .int .i64 b, c], tmps.getD 3 undef]) w := by
  have h2' : tmps[2]?.getD undef = .pointer (some ⟨g, 0, none⟩) := by simpa using h2
  have k0 := h.c0
  have k1 := h.c1
  have k2 := h.c2
  simp [results, Try.results123, h2', asAddr, go_sem, k0, k1, k2]
theorem Ar.set3 {w : World} {g : Nat} {a k : Int} {S : Value} (h : Ar w g a k S) (b m : Int) (S' : Value) : Ar (((w.setCell ⟨g, 0, none⟩ (.int .i64 b)).setCell ⟨g, 1, none⟩ (.int .i64 m)).setCell ⟨g, 2, none⟩ S') g b m S' := by
  unfold Ar at h ⊢
  simp [World.setCell, Array.getElem?_modify, h]

set_option maxHeartbeats 4000000 in
theorem refOpen_any (l : List Nat) (hl : l.length = 64) (hs : ∀ x ∈ l, x < 256) (w : World) :
    Calls Try.prog 123 #[.agg (secV l)] w fun e w' => RefOpenE l e w' ∧ Below w.heap.size w w' := by
  have hb0 : Below w.heap.size w ((w.alloc (.cells (secV l) 75)).alloc (.cells #[.int .i64 0, .int .i64 0, .slice none 0 0] 172)) := ((Below.refl _ w).alloc (Nat.le_refl _) _).alloc (by simp) _
  have hS : Sec ((w.alloc (.cells (secV l) 75)).alloc (.cells #[.int .i64 0, .int .i64 0, .slice none 0 0] 172)) w.heap.size l := Sec.alloc (heap_alloc_new w _) _
  have hT : Ar ((w.alloc (.cells (secV l) 75)).alloc (.cells #[.int .i64 0, .int .i64 0, .slice none 0 0] 172)) (w.heap.size + 1) 0 0 (.slice none 0 0) := heap_alloc2_new w _ _
  have hz0 : ((w.alloc (.cells (secV l) 75)).alloc (.cells #[.int .i64 0, .int .i64 0, .slice none 0 0] 172)).heap.size = w.heap.size + 1 + 1 := by simp
  obtain ⟨st, hst⟩ : ∃ st, st = ofLE (l.take 6) := ⟨_, rfl⟩
  obtain ⟨m, hm⟩ : ∃ m, m = l.getD 7 0 := ⟨_, rfl⟩
  obtain ⟨kd, hkd⟩ : ∃ kd, kd = l.getD 6 0 := ⟨_, rfl⟩
  obtain ⟨D, hD⟩ : ∃ D, D = (l.drop 8).take (min m 50) := ⟨_, rfl⟩
  have HI := Lib.hid (openN_iff hl hs st kd m D hst hkd hm hD)
  have hst48 : st < 281474976710656 := by rw [hst]; exact ofLE_lt48 l hl hs 0
  have hm256 : m < 256 := by rw [hm]; exact getD_small hs _
  have hkd256 : kd < 256 := by rw [hkd]; exact getD_small hs _
  have HL := Lib.hid hl
  have HSM := Lib.hid hs
  have HST := Lib.hid hst
  have HM := Lib.hid hm
  have HD := Lib.hid hD
  have HDS := Lib.hid (show ∀ x ∈ D, x < 256 by rw [hD]; exact fun x hx => hs x (List.mem_of_mem_drop (List.mem_of_mem_take hx)))
  have HDL := Lib.hid (show D.length = min m 50 by rw [hD, List.length_take, List.length_drop]; omega)
  go_enter Try.func123, Try.ntmps123
  go_upto_region 1 with fail
  obtain ⟨w1, hw1⟩ : ∃ w1, w1 = ((w.alloc (.cells (secV l) 75)).alloc (.cells #[.int .i64 0, .int .i64 0, .slice none 0 0] 172)) := ⟨_, rfl⟩
  rw [← hw1] at hb0 hS hT hz0 ⊢
  have g6 := hS.cell 6 (by omega)
  rw [← hkd] at g6
  have hRO : RO w (w1.alloc (.cells #[.int .i64 0, .int .i64 (kd : Int), .slice none 0 0] 172)) l 0 kd (.slice none 0 0) [] :=
    ⟨hS.alloc _, (heap_alloc_old w1 _ hT.lt0).trans hT, (by rw [← hz0]; exact heap_alloc_new w1 _), World.ownsRow_nil _ _ _ _, hb0.alloc hb0.size _, by rw [World.size_alloc, hz0]; omega⟩
  have HRO := Lib.hid hRO
  have HZ := Lib.hid hz0
  have ek : IntKind.i64.wrap (kd : Int) = (kd : Int) := IntWalk.i64_in _ (by omega)
  clear hw1 hb0 hS hT hRO hl hs hst hm hkd hD
  go_upto_region 2 with fail
  obtain ⟨w2, hw2⟩ : ∃ w2, w2 = w1.alloc (.cells #[.int .i64 0, .int .i64 (kd : Int), .slice none 0 0] 172) := ⟨_, rfl⟩
  rw [← hw2] at HRO ⊢
  clear hw2 g6 ek HZ hz0
  go_wp2_with fail
  go_loopw [5] (fun i wr => ∃ t : Nat, t ≤ 6 ∧ i = .int .i64 ((t : Int) - 1) ∧ RO w wr l (ofLE ((l.take 6).drop t)) kd (.slice none 0 0) []) (fun i _ => (intOf i + 1).toNat)
  case atStart => exact ⟨6, by omega, rfl, by rw [List.drop_eq_nil_of_le (by rw [List.length_take]; omega)]; exact HRO.out⟩
  case round =>
    obtain ⟨t, ht, rfl, hro⟩ := hrel
    rcases t with _ | t
    · rw [List.drop_zero, ← HST.out] at hro
      rw [show ((0 : Nat) : Int) - 1 = -1 from rfl]
      have HR1 := Lib.hid hro
      clear hro ht
      go_wp2_with fail
      obtain ⟨M, hM⟩ : ∃ M, M = min m 50 := ⟨_, rfl⟩
      have HMM := Lib.hid hM
      have hM1 : M ≤ m := by omega
      have hM2 : M ≤ 50 := by omega
      have hM3 : M = m ∨ M = 50 := by omega
      have HM3 := Lib.hid hM3
      have HDT := Lib.hid (show D = (l.drop 8).take M by rw [hM]; exact HD.out)
      clear hM hM3
      go_loopw [6] (fun i wr => ∃ (k : Nat) (v : Value), k ≤ M ∧ i = .int .i64 (k : Int) ∧ RO w wr l st kd v ((l.drop 8).take k)) (fun i _ => M - (intOf i).toNat)
      case atStart => exact ⟨0, _, by omega, rfl, HR1.out⟩
      case round =>
        obtain ⟨k, v, hk, rfl, hro⟩ := hrel
        have c7 := hro.box.cell 7 (by rw [HL.out]; omega)
        rw [← HM.out] at c7
        by_cases hlt : k < M
        · have d1 : decide ((k : Int) < (m : Int)) = true := decide_eq_true (by omega)
          have d2 : decide ((k : Int) < 50) = true := decide_eq_true (by omega)
          have em : IntKind.i64.wrap (m : Int) = (m : Int) := IntWalk.i64_in _ (by omega)
          have c8 := hro.box.cell (8 + k) (by rw [HL.out]; omega)
          have hx256 : l.getD (8 + k) 0 < 256 := getD_small HSM.out _
          have htake : (l.drop 8).take (k + 1) = (l.drop 8).take k ++ [l.getD (8 + k) 0] := by
            rw [List.take_add_one, List.getElem?_drop, List.getD_eq_getElem?_getD, List.getElem?_eq_getElem (by rw [HL.out]; omega)]
            rfl
          obtain ⟨x, hx⟩ : ∃ x, x = l.getD (8 + k) 0 := ⟨_, rfl⟩
          rw [← hx] at c8 hx256 htake
          have c2 := hro.x.c2
          have htl : ((l.drop 8).take k).length = k := by rw [List.length_take, List.length_drop, HL.out]; omega
          have HT := Lib.hid htake
          have HTL := Lib.hid htl
          have HRO2 := Lib.hid hro
          have hzz := hro.size
          have hown : (wr.drew.alloc (.cells #[.int .u8 (x : Int)] 5)).ownsRow (w.heap.size + 3) 5 1 v k (valsB ((l.drop 8).take k)) := by
            have h : wr.ownsRow (w.heap.size + 3) 5 1 v ((l.drop 8).take k).length (valsB ((l.drop 8).take k)) := hro.own
            rw [htl] at h
            exact World.ownsRow.alloc (show wr.drew.ownsRow _ _ _ _ _ _ from h) _
          have HOWN := Lib.hid hown
          have HBA := Lib.hid (((Below.refl (w.heap.size + 3) wr).drew).alloc hzz (.cells #[.int .u8 (x : Int)] 5))
          have c2b : (wr.alloc (.cells #[.int .u8 (x : Int)] 5)).cell? ⟨w.heap.size + 1 + 1, 2, none⟩ = some v := (World.cell?_alloc_lt wr _ _ (by show w.heap.size + 1 + 1 < _; omega)).trans c2
          have hq1 : k + 1 ≤ maxLen := by unfold maxLen; omega
          have hq2 : (k + 1) * 1 ≤ 140737488355328 := by omega
          have hq3 : w.heap.size + 3 ≤ (wr.drew.alloc (.cells #[.int .u8 (x : Int)] 5)).heap.size := Nat.le_trans hzz HBA.out.size
          have HQ1 := Lib.hid hq1
          have HQ2 := Lib.hid hq2
          have HQ3 := Lib.hid hq3
          have HQ4 := Lib.hid (show w.heap.size + 1 + 1 < w.heap.size + 3 by omega)
          clear htake htl hx hro hown hq1 hq2 hq3
          have e8 : IntKind.i64.wrap (8 + (k : Int)) = 8 + (k : Int) := IntWalk.i64_in _ (by omega)
          have e9 : (8 + (k : Int)).toNat = 8 + k := by omega
          have e10 : (0 : Int) ≤ 8 + (k : Int) := by omega
          have e11 : 8 + (k : Int) < 64 := by omega
          go_wp2_with fail
          go_region_law (first | (refine step_append_rowv elemB (by simp [Region.wanted]) (.tmp 38) (.tmp 43) rfl (w.heap.size + 3) v k (valsB ((l.drop 8).take k)) rfl HOWN.out (some ⟨wr.heap.size, 0, none⟩) 1 1 (valsB [x]) rfl (rdv_byte wr.drew x) (valsB_one _) (fun h => by cases h) HQ1.out HQ2.out HQ3.out ?_; intro v3 w3 hown3 hg3 hb3; obtain ⟨A3, c3, rfl, _, _, _⟩ := rdv_own hown3; have hB3 : Below (w.heap.size + 3) wr w3 := HBA.out.trans ((Below.refl _ _).grown hg3 HQ3.out (fun q hq => (HOWN.out.lt q hq).1)); have hA3 : Ar w3 (w.heap.size + 1 + 1) st kd v := (hB3.block _ HQ4.out).trans HRO2.out.x; have x2 := hA3.c2; have f2 := hA3.fr 2))
          all_goals
            have HO3 := Lib.hid hown3
            have HB3 := Lib.hid hB3
            clear hown3 hg3 hb3 hB3 hA3 e8 e9 e10 e11 c2b c2 c8 c7 em d1 d2
            go_wp2_with fail
            refine ⟨⟨k + 1, .slice A3 (k + 1) c3, by omega, by go_num, ?_⟩, by simp [intOf]; omega⟩
            rw [HT.out]
            exact HRO2.out.grow HB3.out (ownB_of (by rw [valsB_append]; exact HO3.out) (by rw [List.length_append, HTL.out]; rfl))
        · obtain rfl : k = M := by omega
          rw [← HDT.out] at hro
          obtain ⟨A, c, rfl, hr, hnil, hle⟩ := OwnB.rdv hro.own
          have x0 := hro.x.c0
          have x1 := hro.x.c1
          have x2 := hro.x.c2
          have hDL : D.length ≤ 50 := by rw [HDL.out]; omega
          have HDL5 := Lib.hid hDL
          have em : IntKind.i64.wrap (m : Int) = (m : Int) := IntWalk.i64_in _ (by omega)
          have HRR := Lib.hid hr
          have HOW := Lib.hid hro.own
          have HRO2 := Lib.hid hro
          have hM3 := HM3.out
          have hnot : (decide (k < m) = false) ∨ (decide (k < m) = true ∧ decide ((k : Int) < 50) = false) := by
            rcases hM3 with h | h
            · exact .inl (decide_eq_false (by omega))
            · by_cases h2 : k < m
              · exact .inr ⟨decide_eq_true h2, decide_eq_false (by omega)⟩
              · exact .inl (decide_eq_false h2)
          have HNOT := Lib.hid hnot
          clear hM3 hnot hro hr hnil hDL
          by_cases hg : 1 ≤ st ∧ 1 ≤ kd
          · have HC := Lib.hid (refSeal_ok st kd A D.length c D wr hg.1 (by omega) hg.2 (by omega) HDL5.out HRR.out HDS.out)
            have hlen := sealN_length st kd D HDL5.out
            have hsz : (secV (sealN st kd D)).size = 64 := by rw [secV_size]; exact hlen
            have hst := fun w1 => store_new w1 (sealN st kd D) hlen
            have HLEN := Lib.hid hlen
            have HSS := Lib.hid (sealN_small st kd D (by omega) HDL5.out HDS.out)
            have HG := Lib.hid hg
            clear hlen hg
            rcases HNOT.out with d1 | ⟨d1, d2⟩
            all_goals
              go_wp2_with fail
              refine Calls.mono HC.out ?_
              rintro e w4 ⟨rfl, hb4⟩
              have HB4 := Lib.hid hb4
              clear hb4
              go_upto_region 11 with fail
              have HRF := Lib.hid (HRR.out.ext (stays_b (HB4.out.alloc HB4.out.size (.cells (secV (sealN st kd D)) 75))))
              have HRO4 := Lib.hid (HRO2.out.old (HB4.out.alloc HB4.out.size (.cells (secV (sealN st kd D)) 75)))
              have HSEC := Lib.hid (show Sec (w4.alloc (.cells (secV (sealN st kd D)) 75)) w4.heap.size (sealN st kd D) from heap_alloc_new w4 _)
              obtain ⟨w5, hw5⟩ : ∃ w5, w5 = w4.alloc (.cells (secV (sealN st kd D)) 75) := ⟨_, rfl⟩
              obtain ⟨q, hq⟩ : ∃ q, q = w4.heap.size := ⟨_, rfl⟩
              rw [← hw5, ← hq] at HSEC
              rw [← hw5] at HRO4 HRF ⊢
              rw [← hq]
              have HSZ := Lib.hid (show wr.heap.size ≤ w5.heap.size by rw [hw5, World.size_alloc]; have := HB4.out.size; omega)
              clear hw5 hq hst hsz x0 x1 x2 c7 em
              have y0 := HRO4.out.x.c0
              have y1 := HRO4.out.x.c1
              have y2 := HRO4.out.x.c2
              have z0 := HRO4.out.res.c0
              have z1 := HRO4.out.res.c1
              have z2 := HRO4.out.res.c2
              have f0 := HRO4.out.res.fr 0
              have f1 := HRO4.out.res.fr 1
              have f2 := HRO4.out.res.fr 2
              have e1 : ∀ w, (Op.equalIn 10000 75 (.agg (secV (sealN st kd D))) (.agg (secV l))).run Try.prog w = .ok (decide (sealN st kd D = l)) w := fun w => run_equalIn_deep' 9998 w _ l HLEN.out HL.out HSS.out HSM.out
              by_cases heq : sealN st kd D = l
              · rw [decide_eq_true heq] at e1
                have HEQ := Lib.hid heq
                clear heq
                go_wp2_with (first | refine wpList_load_sec (by rfl) (.tmp 7) rfl q rfl (sealN st kd D) HLEN.out HSEC.out ?_ | refine wpList_load_sec (by rfl) (.tmp 1) rfl w.heap.size rfl l HL.out HRO4.out.box ?_)
                refine bodyPost_ret (res44 (HRO4.out.res.set3 _ _ _) _ rfl) rfl ⟨.inr ⟨st, kd, D, A, c, ?_, rfl, ?_⟩, ((HRO4.out.below.setCell (Nat.le_succ _) _).setCell (Nat.le_succ _) _).setCell (Nat.le_succ _) _⟩
                · rcases HI.out with ⟨_, h⟩ | ⟨h, _⟩
                  · exact absurd ⟨HG.out.1, HG.out.2, HEQ.out⟩ h
                  · exact h
                · have hne : ∀ b o, A = some ⟨b, o, none⟩ → b ≠ w.heap.size + 1 := fun b o e => by
                    rcases HOW.out.2 with ⟨h, _⟩ | ⟨g, cap, cur, h, hg, _⟩
                    · rw [e] at h; cases h
                    · rw [e] at h
                      injection h with h
                      injection h with h
                      injection h with h
                      omega
                  obtain ⟨A9, c9, e9, _, hn9, hl9⟩ := OwnB.rdv HOW.out
                  injection e9 with e9a e9b e9c
                  subst e9a e9c
                  refine ⟨((HRF.out.setL _ 0 _ hne).setL _ 1 _ hne).setL _ 2 _ hne, hn9, hl9, ?_⟩
                  simp only [World.size_setCell]
                  rcases HOW.out.2 with ⟨h, _⟩ | ⟨g, cap, cur, h, _, hg, _⟩
                  · injection h with h
                    exact .inl h
                  · injection h with h
                    have := (Array.getElem?_eq_some_iff.1 hg).1
                    exact .inr ⟨g, h, Nat.lt_of_lt_of_le this HSZ.out⟩
              · rw [decide_eq_false heq] at e1
                have HEQ := Lib.hid heq
                clear heq
                go_wp2_with (first | refine wpList_load_sec (by rfl) (.tmp 7) rfl q rfl (sealN st kd D) HLEN.out HSEC.out ?_ | refine wpList_load_sec (by rfl) (.tmp 1) rfl w.heap.size rfl l HL.out HRO4.out.box ?_)
                refine bodyPost_ret (res44 (HRO4.out.res.set3 _ _ _) _ rfl) rfl ⟨.inl ⟨?_, rfl⟩, ((HRO4.out.below.setCell (Nat.le_succ _) _).setCell (Nat.le_succ _) _).setCell (Nat.le_succ _) _⟩
                rcases HI.out with ⟨h, _⟩ | ⟨_, _, _, h⟩
                · exact h
                · exact absurd h HEQ.out
          · have HC := Lib.hid (refSeal_range st kd A D.length c wr (by omega))
            have hsz : (secV (noughts 64)).size = 64 := by rw [secV_size]; exact noughts64
            have hst := fun w1 => store_new w1 (noughts 64) noughts64
            have HG := Lib.hid hg
            clear hg
            rcases HNOT.out with d1 | ⟨d1, d2⟩
            all_goals
              go_wp2_with fail
              refine Calls.mono HC.out ?_
              rintro e w4 ⟨rfl, hb4⟩
              have HB4 := Lib.hid hb4
              clear hb4
              go_upto_region 11 with fail
              have HRO4 := Lib.hid (HRO2.out.old (HB4.out.alloc HB4.out.size (.cells (secV (noughts 64)) 75)))
              obtain ⟨w5, hw5⟩ : ∃ w5, w5 = w4.alloc (.cells (secV (noughts 64)) 75) := ⟨_, rfl⟩
              rw [← hw5] at HRO4 ⊢
              clear hw5 hst hsz x0 x1 x2 c7 em
              have z0 := HRO4.out.res.c0
              have z1 := HRO4.out.res.c1
              have z2 := HRO4.out.res.c2
              have f0 := HRO4.out.res.fr 0
              have f1 := HRO4.out.res.fr 1
              have f2 := HRO4.out.res.fr 2
              go_wp2_with fail
              refine bodyPost_ret (res44 (HRO4.out.res.set3 _ _ _) _ rfl) rfl ⟨.inl ⟨?_, rfl⟩, ((HRO4.out.below.setCell (Nat.le_succ _) _).setCell (Nat.le_succ _) _).setCell (Nat.le_succ _) _⟩
              rcases HI.out with ⟨h, _⟩ | ⟨_, h1, h2, _⟩
              · exact h
              · exact absurd ⟨h1, h2⟩ HG.out
    · rw [show ((t + 1 : Nat) : Int) - 1 = (t : Int) by omega]
      have c0 := hro.box.cell t (by rw [HL.out]; omega)
      have c1 := hro.x.c0
      have f1 := hro.x.fr 0
      have hdrop := ofLE_drop (l.take 6) t (by rw [List.length_take, HL.out]; omega)
      have hget : (l.take 6).getD t 0 = l.getD t 0 := by
        rw [List.getD_eq_getElem?_getD, List.getD_eq_getElem?_getD, List.getElem?_take, if_pos (by omega)]
      rw [hget] at hdrop
      have hlt : ofLE ((l.take 6).drop (t + 1)) < 256 ^ 5 := Nat.lt_of_lt_of_le (ofLE_lt _ (fun x hx => HSM.out x (List.mem_of_mem_take (List.mem_of_mem_drop hx)))) (Nat.pow_le_pow_right (by omega) (by rw [List.length_drop, List.length_take]; omega))
      have hx256 : l.getD t 0 < 256 := getD_small HSM.out t
      obtain ⟨x, hx⟩ : ∃ x, x = l.getD t 0 := ⟨_, rfl⟩
      obtain ⟨a, ha⟩ : ∃ a, a = ofLE ((l.take 6).drop (t + 1)) := ⟨_, rfl⟩
      obtain ⟨b, hb⟩ : ∃ b, b = ofLE ((l.take 6).drop t) := ⟨_, rfl⟩
      rw [← hx, ← ha, ← hb] at hdrop
      rw [← hx] at c0 hx256
      rw [← ha] at hlt c1
      have hlt' : a < 1099511627776 := hlt
      have e1 : IntKind.i64.wrap (256 * (a : Int) + (x : Int)) = (b : Int) := by rw [IntWalk.i64_in _ (by omega)]; omega
      have e2 : (256 : Int) * (a : Int) + (x : Int) = (b : Int) := by omega
      have e3 : IntKind.i64.wrap (256 * (a : Int)) = 256 * (a : Int) := IntWalk.i64_in _ (by omega)
      have e4 : IntKind.i64.wrap (x : Int) = (x : Int) := IntWalk.i64_in _ (by omega)
      have hro2 := hro.stamp b
      have HR2 := Lib.hid hro2
      have HBB := Lib.hid hb
      have E2 := Lib.hid e2
      clear hro hro2 hdrop hget hlt hx ha hb e1 e2
      go_wp2_with fail
      go_region
      all_goals
        go_wp2_with fail
        refine ⟨⟨t, by omega, rfl, ?_⟩, by simp [intOf] <;> omega⟩
        rw [E2.out, ← HBB.out]
        exact HR2.out
end Go.Proofs.Ytjmjehhmkjhalaa
