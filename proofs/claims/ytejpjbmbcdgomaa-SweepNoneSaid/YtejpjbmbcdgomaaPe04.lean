/- ZJ, TNd: put together. -/
import Derived.Test.YtejpjbmbcdgomaaPe03
import Derived.Test.YtejpjbmbcdgomaaPe02
/- TInsAI, TInsAN, TDelI, TDelN, TClnI, TClnN: put together. -/
/- TInsA: the rows of items. -/
namespace Go.Proofs.Ytejpjbmbcdgomaa
set_option maxRecDepth 100000
open Go.RowKit

theorem below_drewI {w w2 : World} {B : Nat} (h : Below B w w2) : Below B w w2.drew := ⟨h.os, h.tape, h.output, h.size, h.block⟩
/-- slices.Insert of one more. -/
theorem insert_anyI {w : World} {v : Value} {n : Nat} {l : List Ix} (h : w.ownsRow 0 166 4 v n (rowV Ix.vals l)) (hl : l.length = n) (i : Nat) (hi : i ≤ n) (hn : n ≤ 100000) (x : Ix) (vb : Nat) {T : TypeId} (hvb : w.heap[vb]? = some (.cells (Ix.vals x).toArray T (0, 0))) (hne : v.ownBlock ≠ some vb) :
    Calls Try.prog 123 #[v, .int .i64 (i : Int), .slice (some ⟨vb, 0, none⟩) 1 1] w fun e w' => ∃ v', e = .returned v' ∧ w'.ownsRow 0 166 4 v' (n + 1) (rowV Ix.vals (l.take i ++ x :: l.drop i)) ∧ w.grownBy w' v.ownBlock ∧ ∀ q, v'.ownBlock = some q → v.ownBlock = some q ∨ w.heap.size ≤ q := by
  by_cases hin : i = n
  · subst hin
    exact insert_endI h hl hn x vb hvb
  · have hlt : i < n := by omega
    obtain ⟨g, c, rfl⟩ : ∃ g c, v = .slice (some ⟨g, 0, none⟩) n c := by
      rcases h.2 with ⟨rfl, h0⟩ | ⟨g, c, cur, rfl, _⟩
      · omega
      · exact ⟨g, c, rfl⟩
    have hne' : vb ≠ g := fun e => hne (by rw [e]; rfl)
    by_cases hroom : n + 1 ≤ c
    · refine Calls.mono (insert_roomI h hl i hlt hroom x vb hvb hne' 1 rfl) ?_
      rintro e w' ⟨rfl, rfl⟩
      obtain ⟨ys, h1, h2, h3⟩ := own_more h hroom
      obtain ⟨h4, h5⟩ := own_setCells (w := w.drew) (rowV Ix.vals (l.drop i)) ((i + 1) * 4) h1
      obtain ⟨h6, h7⟩ := own_setCells (Ix.vals x) (i * 4) h4
      rw [up_then Ix.vlen hl hi h2 h3 x] at h6
      exact ⟨_, rfl, h6, grown_trans (grown_drewN w _ 1) (grown_trans h5 h7), fun q hq => .inl hq⟩
    · refine Calls.mono (insert_growI h hl i hlt hn (by omega) x vb hvb 1 rfl) ?_
      rintro e w' ⟨rfl, rfl⟩
      obtain ⟨_, _, hnc, _⟩ := own_lt h
      obtain ⟨htl, hdl⟩ := rows_len Ix.vlen hl hi (f := Ix.vals) (k := 4)
      have hGn : n + 1 ≤ grownCap w (n + 1) c 166 := grownCap_ge w _ _ _
      have hGm : grownCap w (n + 1) c 166 ≤ maxLen := grownCap_le_maxLen w (n + 1) c 166 (by unfold maxLen; omega)
      obtain ⟨G, hG⟩ : ∃ G, G = grownCap w (n + 1) c 166 := ⟨_, rfl⟩
      rw [← hG] at hGn hGm ⊢
      obtain ⟨ROW, hROW⟩ : ∃ ROW : Array Value, ROW = (rowV Ix.vals (l.take i)).toArray ++ Builtin.zeroCells (Value.agg #[.int .i64 0, .int .i64 0, .bool false, .int .i64 0]).cells (n + 1 - i) ++ Builtin.zeroCells (Value.agg #[.int .i64 0, .int .i64 0, .bool false, .int .i64 0]).cells (G - (n + 1)) := ⟨_, rfl⟩
      rw [← hROW]
      have hs : ROW.size = G * 4 := by
        rw [hROW]
        simp [size_zeroCells, Value.cells, htl]
        omega
      have ht : ROW.toList.take (i * 4) = rowV Ix.vals (l.take i) := by
        rw [hROW]
        simp only [Array.toList_append, List.append_assoc]
        rw [List.take_append_of_le_length (by rw [htl]; exact Nat.le_refl _), List.take_of_length_le (by rw [htl]; exact Nat.le_refl _)]
      have hle : (n + 1) * 4 ≤ G * 4 := Nat.mul_le_mul_right 4 hGn
      have hle2 : i * 4 ≤ (n + 1) * 4 := Nat.mul_le_mul_right 4 (by omega)
      obtain ⟨ys, hys⟩ : ∃ ys, ys = ROW.toList.take ((n + 1) * 4) := ⟨_, rfl⟩
      have hyl : ys.length = (n + 1) * 4 := by rw [hys, List.length_take, Array.length_toList, hs, Nat.min_eq_left hle]
      have hyt : ys.take (i * 4) = rowV Ix.vals (l.take i) := by rw [hys, List.take_take, Nat.min_eq_left hle2, ht]
      obtain ⟨W1, hW1⟩ : ∃ W1, W1 = (w.alloc (.cells ROW 166)).drew := ⟨_, rfl⟩
      have h1 : W1.ownsRow 0 166 4 (.slice (some ⟨w.heap.size, 0, none⟩) (n + 1) G) (n + 1) ys := by
        rw [hW1]
        exact ⟨hyl, .inr ⟨w.heap.size, G, ROW, rfl, Nat.zero_le _, heap_alloc_new w _, hGn, hGm, hs, hys.symm⟩⟩
      rw [← hW1]
      have hB : Below w.heap.size w W1 := by rw [hW1]; exact below_drewI ((Below.refl _ w).alloc (Nat.le_refl _) _)
      have hsz : W1.heap.size = w.heap.size + 1 := by rw [hW1]; exact World.size_alloc w _
      obtain ⟨h4, h5⟩ := own_setCells (Ix.vals x) (i * 4) h1
      obtain ⟨h6, h7⟩ := own_setCells (w := (W1.setCells w.heap.size (i * 4) (Ix.vals x)).drew) (rowV Ix.vals (l.drop i)) ((i + 1) * 4) h4
      rw [lay_then Ix.vlen hl hi hyl hyt x] at h6
      refine ⟨_, rfl, h6, ?_, fun q hq => .inr (Nat.le_of_eq (by simpa [Value.ownBlock] using hq))⟩
      have hb : Below w.heap.size w (W1.setCells w.heap.size (i * 4) (Ix.vals x)) := hB.trans (below_grown2 h5 (Nat.le_refl _) (by omega))
      have hb2 := (below_drewI hb).trans (below_grown2 h7 (Nat.le_refl _) hb.size)
      exact grown_below hb2 _
end Go.Proofs.Ytejpjbmbcdgomaa

/- TInsA: the rows of pointers. -/
namespace Go.Proofs.Ytejpjbmbcdgomaa
set_option maxRecDepth 100000
open Go.RowKit

theorem below_drewN {w w2 : World} {B : Nat} (h : Below B w w2) : Below B w w2.drew := ⟨h.os, h.tape, h.output, h.size, h.block⟩
/-- slices.Insert of one more. -/
theorem insert_anyN {w : World} {v : Value} {n : Nat} {l : List Nat} (h : w.ownsRow 0 151 1 v n (rowV PV l)) (hl : l.length = n) (i : Nat) (hi : i ≤ n) (hn : n ≤ 100000) (x : Nat) (vb : Nat) {T : TypeId} (hvb : w.heap[vb]? = some (.cells (PV x).toArray T (0, 0))) (hne : v.ownBlock ≠ some vb) :
    Calls Try.prog 125 #[v, .int .i64 (i : Int), .slice (some ⟨vb, 0, none⟩) 1 1] w fun e w' => ∃ v', e = .returned v' ∧ w'.ownsRow 0 151 1 v' (n + 1) (rowV PV (l.take i ++ x :: l.drop i)) ∧ w.grownBy w' v.ownBlock ∧ ∀ q, v'.ownBlock = some q → v.ownBlock = some q ∨ w.heap.size ≤ q := by
  by_cases hin : i = n
  · subst hin
    exact insert_endN h hl hn x vb hvb
  · have hlt : i < n := by omega
    obtain ⟨g, c, rfl⟩ : ∃ g c, v = .slice (some ⟨g, 0, none⟩) n c := by
      rcases h.2 with ⟨rfl, h0⟩ | ⟨g, c, cur, rfl, _⟩
      · omega
      · exact ⟨g, c, rfl⟩
    have hne' : vb ≠ g := fun e => hne (by rw [e]; rfl)
    by_cases hroom : n + 1 ≤ c
    · refine Calls.mono (insert_roomN h hl i hlt hroom x vb hvb hne' 1 rfl) ?_
      rintro e w' ⟨rfl, rfl⟩
      obtain ⟨ys, h1, h2, h3⟩ := own_more h hroom
      obtain ⟨h4, h5⟩ := own_setCells (w := w.drew) (rowV PV (l.drop i)) ((i + 1) * 1) h1
      obtain ⟨h6, h7⟩ := own_setCells (PV x) (i * 1) h4
      rw [up_then PV.len hl hi h2 h3 x] at h6
      exact ⟨_, rfl, h6, grown_trans (grown_drewN w _ 1) (grown_trans h5 h7), fun q hq => .inl hq⟩
    · refine Calls.mono (insert_growN h hl i hlt hn (by omega) x vb hvb 1 rfl) ?_
      rintro e w' ⟨rfl, rfl⟩
      obtain ⟨_, _, hnc, _⟩ := own_lt h
      obtain ⟨htl, hdl⟩ := rows_len PV.len hl hi (f := PV) (k := 1)
      have hGn : n + 1 ≤ grownCap w (n + 1) c 151 := grownCap_ge w _ _ _
      have hGm : grownCap w (n + 1) c 151 ≤ maxLen := grownCap_le_maxLen w (n + 1) c 151 (by unfold maxLen; omega)
      obtain ⟨G, hG⟩ : ∃ G, G = grownCap w (n + 1) c 151 := ⟨_, rfl⟩
      rw [← hG] at hGn hGm ⊢
      obtain ⟨ROW, hROW⟩ : ∃ ROW : Array Value, ROW = (rowV PV (l.take i)).toArray ++ Builtin.zeroCells (Value.pointer none).cells (n + 1 - i) ++ Builtin.zeroCells (Value.pointer none).cells (G - (n + 1)) := ⟨_, rfl⟩
      rw [← hROW]
      have hs : ROW.size = G * 1 := by
        rw [hROW]
        simp [size_zeroCells, Value.cells, htl]
        omega
      have ht : ROW.toList.take (i * 1) = rowV PV (l.take i) := by
        rw [hROW]
        simp only [Array.toList_append, List.append_assoc]
        rw [List.take_append_of_le_length (by rw [htl]; exact Nat.le_refl _), List.take_of_length_le (by rw [htl]; exact Nat.le_refl _)]
      have hle : (n + 1) * 1 ≤ G * 1 := Nat.mul_le_mul_right 1 hGn
      have hle2 : i * 1 ≤ (n + 1) * 1 := Nat.mul_le_mul_right 1 (by omega)
      obtain ⟨ys, hys⟩ : ∃ ys, ys = ROW.toList.take ((n + 1) * 1) := ⟨_, rfl⟩
      have hyl : ys.length = (n + 1) * 1 := by rw [hys, List.length_take, Array.length_toList, hs, Nat.min_eq_left hle]
      have hyt : ys.take (i * 1) = rowV PV (l.take i) := by rw [hys, List.take_take, Nat.min_eq_left hle2, ht]
      obtain ⟨W1, hW1⟩ : ∃ W1, W1 = (w.alloc (.cells ROW 151)).drew := ⟨_, rfl⟩
      have h1 : W1.ownsRow 0 151 1 (.slice (some ⟨w.heap.size, 0, none⟩) (n + 1) G) (n + 1) ys := by
        rw [hW1]
        exact ⟨hyl, .inr ⟨w.heap.size, G, ROW, rfl, Nat.zero_le _, heap_alloc_new w _, hGn, hGm, hs, hys.symm⟩⟩
      rw [← hW1]
      have hB : Below w.heap.size w W1 := by rw [hW1]; exact below_drewN ((Below.refl _ w).alloc (Nat.le_refl _) _)
      have hsz : W1.heap.size = w.heap.size + 1 := by rw [hW1]; exact World.size_alloc w _
      obtain ⟨h4, h5⟩ := own_setCells (PV x) (i * 1) h1
      obtain ⟨h6, h7⟩ := own_setCells (w := (W1.setCells w.heap.size (i * 1) (PV x)).drew) (rowV PV (l.drop i)) ((i + 1) * 1) h4
      rw [lay_then PV.len hl hi hyl hyt x] at h6
      refine ⟨_, rfl, h6, ?_, fun q hq => .inr (Nat.le_of_eq (by simpa [Value.ownBlock] using hq))⟩
      have hb : Below w.heap.size w (W1.setCells w.heap.size (i * 1) (PV x)) := hB.trans (below_grown2 h5 (Nat.le_refl _) (by omega))
      have hb2 := (below_drewN hb).trans (below_grown2 h7 (Nat.le_refl _) hb.size)
      exact grown_below hb2 _
end Go.Proofs.Ytejpjbmbcdgomaa

/- TDel: the rows of items. -/
namespace Go.Proofs.Ytejpjbmbcdgomaa
set_option maxRecDepth 100000
open Go.RowKit

/-- What an append in its place comes to: the elements from j on laid at i. -/
theorem shift_downI {w : World} {B g n c : Nat} {l : List Ix} (h : w.ownsRow B 166 4 (.slice (some ⟨g, 0, none⟩) n c) n (rowV Ix.vals l)) (hl : l.length = n) (i : Nat) (hi : i < n) (ty : TypeId) :
    ∃ w', (Builtin.append_ #[152, 152] ty #[.slice (some ⟨g, 0, none⟩) i c, .slice (some ⟨g, (i + 1) * 4, none⟩) (n - (i + 1)) (c - (i + 1))]).run Try.prog w = .ok (.slice (some ⟨g, 0, none⟩) (n - 1) c) w' ∧ w'.ownsRow B 166 4 (.slice (some ⟨g, 0, none⟩) n c) n (setL (rowV Ix.vals l) (i * 4) (rowV Ix.vals (l.drop (i + 1)))) ∧ w.grownBy w' (some g) := by
  obtain ⟨ht, hinfo, ⟨ie, z, hie, hz, hzs⟩, hpos⟩ := elemIx
  rw [hie] at hinfo
  simp at hinfo
  obtain ⟨_, _, hnc, hcm⟩ := own_lt h
  have hlen : (rowV Ix.vals (l.drop (i + 1))).length = (n - (i + 1)) * 4 := by rw [rowV_length Ix.vals 4 Ix.vlen, List.length_drop, hl]
  have hxl : (rowV Ix.vals l).length = n * 4 := h.1
  have hnews : ∀ j u, (rowV Ix.vals (l.drop (i + 1)))[j]? = some u → w.cell? ((⟨g, (i + 1) * 4, none⟩ : Addr).add j) = some u := fun j u hj => by
    rw [addr_plus]
    rw [← rowV_drop Ix.vlen, List.getElem?_drop] at hj
    exact own_cell h _ u hj
  have hr := run_append_room_cells (P := Try.prog) (w := w) 152 ty 166 ie ht hie g 0 i c ⟨g, (i + 1) * 4, none⟩ (n - (i + 1)) (c - (i + 1)) (rowV Ix.vals (l.drop (i + 1))) (by rw [hlen, hinfo.1]) hnews (ix_one _) (by omega) (fun j hj => by
    rw [hinfo.1, Nat.zero_add]
    have hb : i * 4 + j < (rowV Ix.vals l).length := by rw [hxl]; rw [hlen] at hj; omega
    rw [own_cell h _ _ (List.getElem?_eq_getElem hb)]
    rfl) (fun j _ => own_frozen h _)
  obtain ⟨h2, h3⟩ := own_setCells (rowV Ix.vals (l.drop (i + 1))) (i * 4) h
  refine ⟨_, ?_, h2, h3⟩
  rw [hr, hinfo.1, Nat.zero_add]
  congr 2
  omega
theorem cut_rowI {l : List Ix} {n i : Nat} (hl : l.length = n) (hi : i < n) : (setL (rowV Ix.vals l) (i * 4) (rowV Ix.vals (l.drop (i + 1)))).take ((n - 1) * 4) = rowV Ix.vals (l.eraseIdx i) := by
  have hlen : (rowV Ix.vals (l.drop (i + 1))).length = (n - (i + 1)) * 4 := by rw [rowV_length Ix.vals 4 Ix.vlen, List.length_drop, hl]
  have e : (n - 1) * 4 = i * 4 + (rowV Ix.vals (l.drop (i + 1))).length := by rw [hlen]; omega
  rw [e, setL_take _ _ _ (by rw [hlen, rowV_length Ix.vals 4 Ix.vlen, hl]; omega), rowV_take Ix.vlen, List.eraseIdx_eq_take_drop_succ, rowV_append]
theorem step_shiftI {w : World} {ops : Array Oper} {o : Oper} {a : Act} {K : Act → World → Prop} {Q : Exit → Act → World → Prop} {E : Prop} (hw : Region.wanted o (yielded ops a.tmps) = true) (s x : Operand)
    (ho : o.op = .call { callee := .builtin .append, args := #[s, x], argTypes := #[152, 152] }) {B g n c j : Nat} {l : List Ix} (h : w.ownsRow B 166 4 (.slice (some ⟨g, 0, none⟩) n c) n (rowV Ix.vals l)) (hl : l.length = n) (i : Nat) (hi : i < n) (hj : j = i + 1) {m : Nat} (hm : m = n - 1)
    (hs : a.eval s = .slice (some ⟨g, 0, none⟩) i c) (hx : a.eval x = .slice (some ⟨g, j * 4, none⟩) (n - j) (c - j) ∨ (n = j ∧ a.eval x = .slice (some ⟨g, 0, none⟩) 0 0))
    (hK : ∀ w', w'.ownsRow B 166 4 (.slice (some ⟨g, 0, none⟩) n c) n (setL (rowV Ix.vals l) (i * 4) (rowV Ix.vals (l.drop (i + 1)))) → w.grownBy w' (some g) → K (a.put o.dst (.slice (some ⟨g, 0, none⟩) m c)) w') : if Region.wanted o (yielded ops a.tmps) = true then Oper.wp Try.prog o a w K Q else E := by
  rw [if_pos hw]
  subst hj hm
  rcases hx with hx | ⟨hn, hx⟩
  · obtain ⟨w', hrun, h1, h2⟩ := shift_downI h hl i hi o.type
    have h3 := hK w' h1 h2
    rw [← hs, ← hx] at hrun
    unfold Oper.wp
    simp [execOp, ho, resolve, invoke, builtin, hrun, Result.andThen]
    exact h3
  · have h3 := hK w (by rw [List.drop_of_length_le (by omega)]; exact h) (grown_refl _ _)
    have hin : i = n - 1 := by omega
    obtain ⟨ht, hinfo, ⟨ie, z, hie, hz, hzs⟩, hpos⟩ := elemIx
    have hrun : (Builtin.append_ #[152, 152] o.type #[.slice (some ⟨g, 0, none⟩) i c, .slice (some ⟨g, 0, none⟩) 0 0]).run Try.prog w = .ok (.slice (some ⟨g, 0, none⟩) i c) w := by
      obtain ⟨_, _, hnc, _⟩ := own_lt h
      have hic : i ≤ c := by omega
      simp [Builtin.append_, run_underlying ht, sizeOf, typeInfo, hie, Builtin.lenOf, Builtin.firstCells, loadCells, loadCellsFrom, storeCells, hic]
    unfold Oper.wp
    simp [execOp, ho, resolve, invoke, builtin, hs, hx, hrun, Result.andThen]
    rw [hin]
    exact h3
set_option maxHeartbeats 2000000 in
theorem delete_anyI {w : World} {B g n c : Nat} {l : List Ix} (h : w.ownsRow B 166 4 (.slice (some ⟨g, 0, none⟩) n c) n (rowV Ix.vals l)) (hl : l.length = n) (i : Nat) (hi : i < n) (hn : n ≤ 1000000) :
    Calls Try.prog 118 #[.slice (some ⟨g, 0, none⟩) n c, .int .i64 (i : Int), .int .i64 ((i + 1 : Nat) : Int)] w fun e w' => e = .returned (.slice (some ⟨g, 0, none⟩) (n - 1) c) ∧ w'.ownsRow B 166 4 (.slice (some ⟨g, 0, none⟩) (n - 1) c) (n - 1) (rowV Ix.vals (l.eraseIdx i)) ∧ w.grownBy w' (some g) := by
  obtain ⟨_, _, hnc, hcm⟩ := own_lt h
  have HH := Lib.hid h
  have HL := Lib.hid hl
  obtain ⟨j, hj⟩ : ∃ j, j = i + 1 := ⟨_, rfl⟩
  rw [← hj]
  have HJ := Lib.hid hj
  have f1 : (0 : Int) ≤ (i : Int) := by omega
  have f2 : (i : Int) ≤ (j : Int) := by omega
  have f3 : (j : Int) ≤ (n : Int) := by omega
  have f4 : (n : Int) ≤ (c : Int) := by omega
  have f5 : ((i : Int) == (j : Int)) = false := beq_eq_false_iff_ne.2 (by omega)
  have f6 : (i : Int) ≤ (n : Int) := by omega
  have f7 : (i : Int) ≤ (c : Int) := by omega
  have f8 : (0 : Int) ≤ (j : Int) := by omega
  have f9 : ¬ c = i := by omega
  obtain ⟨m, hm⟩ : ∃ m, m = n - 1 := ⟨_, rfl⟩
  have HM := Lib.hid hm
  have hmn : m ≤ n := by omega
  have f10 : (0 : Int) ≤ (m : Int) := by omega
  have f11 : (m : Int) ≤ (n : Int) := by omega
  have f12 : ¬ c = m := by omega
  rw [← hm]
  have main : ∀ w9 : World, w9.ownsRow B 166 4 (.slice (some ⟨g, 0, none⟩) n c) n (setL (rowV Ix.vals l) (i * 4) (rowV Ix.vals (l.drop (i + 1)))) → ∃ w8, (∀ ty, (Builtin.clear_ #[152] ty #[.slice (some ⟨g, m * 4, none⟩) (n - m) (c - m)]).run Try.prog w9 = .ok (.tuple #[]) w8) ∧ w8.ownsRow B 166 4 (.slice (some ⟨g, 0, none⟩) m c) m (rowV Ix.vals (l.eraseIdx i)) ∧ w9.grownBy w8 (some g) := fun w9 h9 => by
    obtain ⟨w8, hrun, ho9, hg9⟩ := clear_own (P := Try.prog) (t := 152) (e := 166) Try.underlying152 Try.zeroValue166 (by rfl) (by intro v hv; simp [Value.cells] at hv; rcases hv with rfl | rfl | rfl | rfl <;> rfl) (by decide) (m := m) (c' := c - m) 0 h9 hmn
    refine ⟨w8, fun ty => hrun, ?_, hg9⟩
    have := cut_rowI HL.out hi
    rw [← HM.out] at this
    rw [← this]
    exact ho9
  clear h hj hl hm
  by_cases hcj : c = j
  · subst hcj
    have hnn : n = c := by omega
    subst hnn
    go_enter Try.func118, Try.ntmps118
    go_upto_region 5 with fail
    go_region_law (first | (refine step_shiftI (w := w.drew) (by simp [Region.wanted]) (.tmp 22) (.tmp 25) rfl HH.out HL.out i hi HJ.out HM.out (by simp [Act.eval, Act.put]) (.inr ⟨rfl, by simp [Act.eval, Act.put]⟩) ?_; intro w9 hown9 hg9))
    have hg9' := Lib.hid (grown_trans (grown_drewN w (some g) 1) hg9)
    obtain ⟨w8, hcl, ho8, hg8⟩ := main w9 hown9
    have HO8 := Lib.hid ho8
    have HG8 := Lib.hid hg8
    clear hown9 hg9 ho8 hg8 main
    try simp only [Nat.mul_one] at hcl
    go_wp2_with fail
    go_ret
    exact ⟨rfl, HO8.out, grown_trans hg9'.out HG8.out⟩
  · go_enter Try.func118, Try.ntmps118
    go_upto_region 5 with fail
    go_region_law (first | (refine step_shiftI (w := w.drew) (by simp [Region.wanted]) (.tmp 22) (.tmp 25) rfl HH.out HL.out i hi HJ.out HM.out (by simp [Act.eval, Act.put]) (.inl (by simp [Act.eval, Act.put])) ?_; intro w9 hown9 hg9))
    have hg9' := Lib.hid (grown_trans (grown_drewN w (some g) 1) hg9)
    obtain ⟨w8, hcl, ho8, hg8⟩ := main w9 hown9
    have HO8 := Lib.hid ho8
    have HG8 := Lib.hid hg8
    clear hown9 hg9 ho8 hg8 main
    try simp only [Nat.mul_one] at hcl
    go_wp2_with fail
    go_ret
    exact ⟨rfl, HO8.out, grown_trans hg9'.out HG8.out⟩
end Go.Proofs.Ytejpjbmbcdgomaa

/- TDel: the rows of pointers. -/
namespace Go.Proofs.Ytejpjbmbcdgomaa
set_option maxRecDepth 100000
open Go.RowKit

/-- What an append in its place comes to: the elements from j on laid at i. -/
theorem shift_downN {w : World} {B g n c : Nat} {l : List Nat} (h : w.ownsRow B 151 1 (.slice (some ⟨g, 0, none⟩) n c) n (rowV PV l)) (hl : l.length = n) (i : Nat) (hi : i < n) (ty : TypeId) :
    ∃ w', (Builtin.append_ #[153, 153] ty #[.slice (some ⟨g, 0, none⟩) i c, .slice (some ⟨g, (i + 1) * 1, none⟩) (n - (i + 1)) (c - (i + 1))]).run Try.prog w = .ok (.slice (some ⟨g, 0, none⟩) (n - 1) c) w' ∧ w'.ownsRow B 151 1 (.slice (some ⟨g, 0, none⟩) n c) n (setL (rowV PV l) (i * 1) (rowV PV (l.drop (i + 1)))) ∧ w.grownBy w' (some g) := by
  obtain ⟨ht, hinfo, ⟨ie, z, hie, hz, hzs⟩, hpos⟩ := elemPt
  rw [hie] at hinfo
  simp at hinfo
  obtain ⟨_, _, hnc, hcm⟩ := own_lt h
  have hlen : (rowV PV (l.drop (i + 1))).length = (n - (i + 1)) * 1 := by rw [rowV_length PV 1 PV.len, List.length_drop, hl]
  have hxl : (rowV PV l).length = n * 1 := h.1
  have hnews : ∀ j u, (rowV PV (l.drop (i + 1)))[j]? = some u → w.cell? ((⟨g, (i + 1) * 1, none⟩ : Addr).add j) = some u := fun j u hj => by
    rw [addr_plus]
    rw [← rowV_drop PV.len, List.getElem?_drop] at hj
    exact own_cell h _ u hj
  have hr := run_append_room_cells (P := Try.prog) (w := w) 153 ty 151 ie ht hie g 0 i c ⟨g, (i + 1) * 1, none⟩ (n - (i + 1)) (c - (i + 1)) (rowV PV (l.drop (i + 1))) (by rw [hlen, hinfo.1]) hnews (pt_one _) (by omega) (fun j hj => by
    rw [hinfo.1, Nat.zero_add]
    have hb : i * 1 + j < (rowV PV l).length := by rw [hxl]; rw [hlen] at hj; omega
    rw [own_cell h _ _ (List.getElem?_eq_getElem hb)]
    rfl) (fun j _ => own_frozen h _)
  obtain ⟨h2, h3⟩ := own_setCells (rowV PV (l.drop (i + 1))) (i * 1) h
  refine ⟨_, ?_, h2, h3⟩
  rw [hr, hinfo.1, Nat.zero_add]
  congr 2
  omega
theorem cut_rowN {l : List Nat} {n i : Nat} (hl : l.length = n) (hi : i < n) : (setL (rowV PV l) (i * 1) (rowV PV (l.drop (i + 1)))).take ((n - 1) * 1) = rowV PV (l.eraseIdx i) := by
  have hlen : (rowV PV (l.drop (i + 1))).length = (n - (i + 1)) * 1 := by rw [rowV_length PV 1 PV.len, List.length_drop, hl]
  have e : (n - 1) * 1 = i * 1 + (rowV PV (l.drop (i + 1))).length := by rw [hlen]; omega
  rw [e, setL_take _ _ _ (by rw [hlen, rowV_length PV 1 PV.len, hl]; omega), rowV_take PV.len, List.eraseIdx_eq_take_drop_succ, rowV_append]
theorem step_shiftN {w : World} {ops : Array Oper} {o : Oper} {a : Act} {K : Act → World → Prop} {Q : Exit → Act → World → Prop} {E : Prop} (hw : Region.wanted o (yielded ops a.tmps) = true) (s x : Operand)
    (ho : o.op = .call { callee := .builtin .append, args := #[s, x], argTypes := #[153, 153] }) {B g n c j : Nat} {l : List Nat} (h : w.ownsRow B 151 1 (.slice (some ⟨g, 0, none⟩) n c) n (rowV PV l)) (hl : l.length = n) (i : Nat) (hi : i < n) (hj : j = i + 1) {m : Nat} (hm : m = n - 1)
    (hs : a.eval s = .slice (some ⟨g, 0, none⟩) i c) (hx : a.eval x = .slice (some ⟨g, j * 1, none⟩) (n - j) (c - j) ∨ (n = j ∧ a.eval x = .slice (some ⟨g, 0, none⟩) 0 0))
    (hK : ∀ w', w'.ownsRow B 151 1 (.slice (some ⟨g, 0, none⟩) n c) n (setL (rowV PV l) (i * 1) (rowV PV (l.drop (i + 1)))) → w.grownBy w' (some g) → K (a.put o.dst (.slice (some ⟨g, 0, none⟩) m c)) w') : if Region.wanted o (yielded ops a.tmps) = true then Oper.wp Try.prog o a w K Q else E := by
  rw [if_pos hw]
  subst hj hm
  rcases hx with hx | ⟨hn, hx⟩
  · obtain ⟨w', hrun, h1, h2⟩ := shift_downN h hl i hi o.type
    have h3 := hK w' h1 h2
    rw [← hs, ← hx] at hrun
    unfold Oper.wp
    simp [execOp, ho, resolve, invoke, builtin, hrun, Result.andThen]
    exact h3
  · have h3 := hK w (by rw [List.drop_of_length_le (by omega)]; exact h) (grown_refl _ _)
    have hin : i = n - 1 := by omega
    obtain ⟨ht, hinfo, ⟨ie, z, hie, hz, hzs⟩, hpos⟩ := elemPt
    have hrun : (Builtin.append_ #[153, 153] o.type #[.slice (some ⟨g, 0, none⟩) i c, .slice (some ⟨g, 0, none⟩) 0 0]).run Try.prog w = .ok (.slice (some ⟨g, 0, none⟩) i c) w := by
      obtain ⟨_, _, hnc, _⟩ := own_lt h
      have hic : i ≤ c := by omega
      simp [Builtin.append_, run_underlying ht, sizeOf, typeInfo, hie, Builtin.lenOf, Builtin.firstCells, loadCells, loadCellsFrom, storeCells, hic]
    unfold Oper.wp
    simp [execOp, ho, resolve, invoke, builtin, hs, hx, hrun, Result.andThen]
    rw [hin]
    exact h3
set_option maxHeartbeats 2000000 in
theorem delete_anyN {w : World} {B g n c : Nat} {l : List Nat} (h : w.ownsRow B 151 1 (.slice (some ⟨g, 0, none⟩) n c) n (rowV PV l)) (hl : l.length = n) (i : Nat) (hi : i < n) (hn : n ≤ 1000000) :
    Calls Try.prog 136 #[.slice (some ⟨g, 0, none⟩) n c, .int .i64 (i : Int), .int .i64 ((i + 1 : Nat) : Int)] w fun e w' => e = .returned (.slice (some ⟨g, 0, none⟩) (n - 1) c) ∧ w'.ownsRow B 151 1 (.slice (some ⟨g, 0, none⟩) (n - 1) c) (n - 1) (rowV PV (l.eraseIdx i)) ∧ w.grownBy w' (some g) := by
  obtain ⟨_, _, hnc, hcm⟩ := own_lt h
  have HH := Lib.hid h
  have HL := Lib.hid hl
  obtain ⟨j, hj⟩ : ∃ j, j = i + 1 := ⟨_, rfl⟩
  rw [← hj]
  have HJ := Lib.hid hj
  have f1 : (0 : Int) ≤ (i : Int) := by omega
  have f2 : (i : Int) ≤ (j : Int) := by omega
  have f3 : (j : Int) ≤ (n : Int) := by omega
  have f4 : (n : Int) ≤ (c : Int) := by omega
  have f5 : ((i : Int) == (j : Int)) = false := beq_eq_false_iff_ne.2 (by omega)
  have f6 : (i : Int) ≤ (n : Int) := by omega
  have f7 : (i : Int) ≤ (c : Int) := by omega
  have f8 : (0 : Int) ≤ (j : Int) := by omega
  have f9 : ¬ c = i := by omega
  obtain ⟨m, hm⟩ : ∃ m, m = n - 1 := ⟨_, rfl⟩
  have HM := Lib.hid hm
  have hmn : m ≤ n := by omega
  have f10 : (0 : Int) ≤ (m : Int) := by omega
  have f11 : (m : Int) ≤ (n : Int) := by omega
  have f12 : ¬ c = m := by omega
  rw [← hm]
  have main : ∀ w9 : World, w9.ownsRow B 151 1 (.slice (some ⟨g, 0, none⟩) n c) n (setL (rowV PV l) (i * 1) (rowV PV (l.drop (i + 1)))) → ∃ w8, (∀ ty, (Builtin.clear_ #[153] ty #[.slice (some ⟨g, m * 1, none⟩) (n - m) (c - m)]).run Try.prog w9 = .ok (.tuple #[]) w8) ∧ w8.ownsRow B 151 1 (.slice (some ⟨g, 0, none⟩) m c) m (rowV PV (l.eraseIdx i)) ∧ w9.grownBy w8 (some g) := fun w9 h9 => by
    obtain ⟨w8, hrun, ho9, hg9⟩ := clear_own (P := Try.prog) (t := 153) (e := 151) Try.underlying153 Try.zeroValue151 (by rfl) (by intro v hv; simp [Value.cells] at hv; subst hv; rfl) (by decide) (m := m) (c' := c - m) 0 h9 hmn
    refine ⟨w8, fun ty => hrun, ?_, hg9⟩
    have := cut_rowN HL.out hi
    rw [← HM.out] at this
    rw [← this]
    exact ho9
  clear h hj hl hm
  by_cases hcj : c = j
  · subst hcj
    have hnn : n = c := by omega
    subst hnn
    go_enter Try.func136, Try.ntmps136
    go_upto_region 5 with fail
    go_region_law (first | (refine step_shiftN (w := w.drew) (by simp [Region.wanted]) (.tmp 22) (.tmp 25) rfl HH.out HL.out i hi HJ.out HM.out (by simp [Act.eval, Act.put]) (.inr ⟨rfl, by simp [Act.eval, Act.put]⟩) ?_; intro w9 hown9 hg9))
    have hg9' := Lib.hid (grown_trans (grown_drewN w (some g) 1) hg9)
    obtain ⟨w8, hcl, ho8, hg8⟩ := main w9 hown9
    have HO8 := Lib.hid ho8
    have HG8 := Lib.hid hg8
    clear hown9 hg9 ho8 hg8 main
    try simp only [Nat.mul_one] at hcl
    go_wp2_with fail
    go_ret
    exact ⟨rfl, HO8.out, grown_trans hg9'.out HG8.out⟩
  · go_enter Try.func136, Try.ntmps136
    go_upto_region 5 with fail
    go_region_law (first | (refine step_shiftN (w := w.drew) (by simp [Region.wanted]) (.tmp 22) (.tmp 25) rfl HH.out HL.out i hi HJ.out HM.out (by simp [Act.eval, Act.put]) (.inl (by simp [Act.eval, Act.put])) ?_; intro w9 hown9 hg9))
    have hg9' := Lib.hid (grown_trans (grown_drewN w (some g) 1) hg9)
    obtain ⟨w8, hcl, ho8, hg8⟩ := main w9 hown9
    have HO8 := Lib.hid ho8
    have HG8 := Lib.hid hg8
    clear hown9 hg9 ho8 hg8 main
    try simp only [Nat.mul_one] at hcl
    go_wp2_with fail
    go_ret
    exact ⟨rfl, HO8.out, grown_trans hg9'.out HG8.out⟩
end Go.Proofs.Ytejpjbmbcdgomaa

/- TCln: the rows of items. -/
namespace Go.Proofs.Ytejpjbmbcdgomaa
set_option maxRecDepth 100000
open Go.RowKit

set_option maxHeartbeats 2000000 in
theorem clone_anyI {w : World} {A : Option Addr} {n c : Nat} {l : List Ix} (hr : Rdv w A n 4 (rowV Ix.vals l)) (hnil : A = none → c = 0) (hle : n ≤ c) (hn : n ≤ 100000) :
    Calls Try.prog 113 #[.slice A n c] w fun e w' => ∃ v', e = .returned v' ∧ w'.ownsRow w.heap.size 166 4 v' n (rowV Ix.vals l) ∧ Below w.heap.size w w' := by
  rcases A with _ | ad
  · obtain rfl := hnil rfl
    have hn0 : n = 0 := by omega
    subst hn0
    have HX := Lib.hid (show rowV Ix.vals l = [] from List.eq_nil_of_length_eq_zero (by have := hr.1; omega))
    clear hr hnil hle
    have hq := fun w => Go.Lib.run_eql_slice_nil (P := Try.prog) w 152 166 none 0 0 0 0 Try.underlying152
    go_enter Try.func113, Try.ntmps113
    go_wp2_with fail
    go_ret
    exact ⟨_, rfl, by rw [HX.out]; exact World.ownsRow_nil _ _ _ _, Below.refl _ _⟩
  · have HR := Lib.hid hr
    clear hr hnil
    have hq := fun w => Go.Lib.run_eql_slice_nil (P := Try.prog) w 152 166 (some ad) n c 0 0 Try.underlying152
    go_enter Try.func113, Try.ntmps113
    go_wp2_with (at_builtin; refine wpList_append_copy elemIx rfl (.tmp 5) (.tmp 6) rfl rfl (some ad) n c (rowV Ix.vals l) rfl HR.out (ix_one _) (fun h => by cases h) (by unfold maxLen; omega) (by omega) ?_; intro b5 c5 w5 hown5 hb5 hbl5)
    go_ret
    exact ⟨_, rfl, hown5, hbl5⟩
end Go.Proofs.Ytejpjbmbcdgomaa

/- TCln: the rows of pointers. -/
namespace Go.Proofs.Ytejpjbmbcdgomaa
set_option maxRecDepth 100000
open Go.RowKit

set_option maxHeartbeats 2000000 in
theorem clone_anyN {w : World} {A : Option Addr} {n c : Nat} {l : List Nat} (hr : Rdv w A n 1 (rowV PV l)) (hnil : A = none → c = 0) (hle : n ≤ c) (hn : n ≤ 100000) :
    Calls Try.prog 124 #[.slice A n c] w fun e w' => ∃ v', e = .returned v' ∧ w'.ownsRow w.heap.size 151 1 v' n (rowV PV l) ∧ Below w.heap.size w w' := by
  rcases A with _ | ad
  · obtain rfl := hnil rfl
    have hn0 : n = 0 := by omega
    subst hn0
    have HX := Lib.hid (show rowV PV l = [] from List.eq_nil_of_length_eq_zero (by have := hr.1; omega))
    clear hr hnil hle
    have hq := fun w => Go.Lib.run_eql_slice_nil (P := Try.prog) w 153 151 none 0 0 0 0 Try.underlying153
    go_enter Try.func124, Try.ntmps124
    go_wp2_with fail
    go_ret
    exact ⟨_, rfl, by rw [HX.out]; exact World.ownsRow_nil _ _ _ _, Below.refl _ _⟩
  · have HR := Lib.hid hr
    clear hr hnil
    have hq := fun w => Go.Lib.run_eql_slice_nil (P := Try.prog) w 153 151 (some ad) n c 0 0 Try.underlying153
    go_enter Try.func124, Try.ntmps124
    go_wp2_with (at_builtin; refine wpList_append_copy elemPt rfl (.tmp 5) (.tmp 6) rfl rfl (some ad) n c (rowV PV l) rfl HR.out (pt_one _) (fun h => by cases h) (by unfold maxLen; omega) (by omega) ?_; intro b5 c5 w5 hown5 hb5 hbl5)
    go_ret
    exact ⟨_, rfl, hown5, hbl5⟩
end Go.Proofs.Ytejpjbmbcdgomaa

/- A node in memory by itself. -/
namespace Go.Proofs.Ytejpjbmbcdgomaa
set_option maxRecDepth 100000
open Go.RowKit

/-- A node: its block, its two slices, its items, where those below it lie. -/
structure Nd where
  p : Nat
  v : Value
  u : Value
  is : List Ix
  ps : List Nat
/-- Its blocks. -/
def Nd.B (n : Nd) (k : Nat) : Prop := k = n.p ∨ n.v.ownBlock = some k ∨ n.u.ownBlock = some k
structure NdM (w : World) (n : Nd) : Prop where
  block : w.heap[n.p]? = some (.cells #[n.v, n.u] 155 (0, 0))
  own : w.ownsRow 0 166 4 n.v n.is.length (rowV Ix.vals n.is)
  kids : w.ownsRow 0 151 1 n.u n.ps.length (rowV PV n.ps)
theorem own_same {w w' : World} {B e size n : Nat} {v : Value} {xs : List Value} (h : w.ownsRow B e size v n xs) (hk : ∀ q, v.ownBlock = some q → w'.heap[q]? = w.heap[q]?) : w'.ownsRow B e size v n xs := by
  refine ⟨h.1, ?_⟩
  rcases h.2 with h0 | ⟨g, cap, cur, rfl, h1, h2, h3⟩
  · exact .inl h0
  · exact .inr ⟨g, cap, cur, rfl, h1, (hk g rfl).trans h2, h3⟩
theorem own_at {w : World} {B e size n : Nat} {v : Value} {xs : List Value} (h : w.ownsRow B e size v n xs) {q : Nat} (hq : v.ownBlock = some q) : ∃ cur, w.heap[q]? = some (.cells cur e (0, 0)) := by
  rcases h.2 with ⟨rfl, _⟩ | ⟨g, cap, cur, rfl, h1, h2, h3⟩
  · cases hq
  · have e : g = q := by simpa [Value.ownBlock] using hq
    subst e
    exact ⟨cur, h2⟩
section
variable {w w' : World} {n : Nd}
theorem NdM.keep (h : NdM w n) (hk : ∀ k, n.B k → w'.heap[k]? = w.heap[k]?) : NdM w' n :=
  ⟨(hk _ (.inl rfl)).trans h.block, own_same h.own fun q e => hk q (.inr (.inl e)), own_same h.kids fun q e => hk q (.inr (.inr e))⟩
theorem NdM.lt (h : NdM w n) {k : Nat} (hk : n.B k) : k < w.heap.size := by
  rcases hk with rfl | hk | hk
  · exact (Array.getElem?_eq_some_iff.1 h.block).1
  · obtain ⟨_, e⟩ := own_at h.own hk
    exact (Array.getElem?_eq_some_iff.1 e).1
  · obtain ⟨_, e⟩ := own_at h.kids hk
    exact (Array.getElem?_eq_some_iff.1 e).1
theorem NdM.below (h : NdM w n) (hb : Below w.heap.size w w') : NdM w' n := h.keep fun _ hk => hb.block _ (h.lt hk)
theorem NdM.vp (h : NdM w n) : n.v.ownBlock ≠ some n.p := fun e => by
  obtain ⟨cur, e2⟩ := own_at h.own e
  rw [h.block] at e2
  injection e2 with e2
  injection e2 with _ e3
  exact absurd e3 (by decide)
theorem NdM.up (h : NdM w n) : n.u.ownBlock ≠ some n.p := fun e => by
  obtain ⟨cur, e2⟩ := own_at h.kids e
  rw [h.block] at e2
  injection e2 with e2
  injection e2 with _ e3
  exact absurd e3 (by decide)
theorem NdM.vu (h : NdM w n) {k : Nat} (hv : n.v.ownBlock = some k) : n.u.ownBlock ≠ some k := fun e => by
  obtain ⟨_, e1⟩ := own_at h.own hv
  obtain ⟨_, e2⟩ := own_at h.kids e
  rw [e1] at e2
  injection e2 with e2
  injection e2 with _ e3
  exact absurd e3 (by decide)
theorem NdM.c0 (h : NdM w n) : w.cell? ⟨n.p, 0, none⟩ = some n.v := (cell_of_row w _ 0 _ _ (0, 0) h.block).trans rfl
theorem NdM.c1 (h : NdM w n) : w.cell? ⟨n.p, 1, none⟩ = some n.u := (cell_of_row w _ 1 _ _ (0, 0) h.block).trans rfl
theorem NdM.fr (h : NdM w n) (j : Nat) : w.frozen? ⟨n.p, j, none⟩ = false := frozen_of h.block j
/-- Its items' slice. -/
theorem NdM.items (h : NdM w n) : ∃ A c, n.v = .slice A n.is.length c ∧ Ixs w A n.is ∧ (A = none → c = 0) ∧ n.is.length ≤ c := by
  obtain ⟨A, c, e, hr, hn, hl⟩ := rdv_own h.own
  exact ⟨A, c, e, ⟨rfl, hr⟩, hn, hl⟩
theorem NdM.item (h : NdM w n) {j : Nat} (hj : j < n.is.length) : ∃ g c, n.v = .slice (some ⟨g, 0, none⟩) n.is.length c ∧ n.is.length ≤ c ∧ (∀ o, w.frozen? ⟨g, o, none⟩ = false) ∧
    w.cell? ⟨g, j * 4, none⟩ = some (.int .i64 n.is[j].c.v) ∧ w.cell? ⟨g, j * 4 + 1, none⟩ = some (.int .i64 n.is[j].c.s) ∧ w.cell? ⟨g, j * 4 + 2, none⟩ = some (.bool n.is[j].c.dead) ∧ w.cell? ⟨g, j * 4 + 3, none⟩ = some (.int .i64 n.is[j].k) := by
  rcases h.own.2 with ⟨_, h0⟩ | ⟨g, c, cur, e, _, hb, hle, _⟩
  · omega
  · have ho := h.own
    rw [e] at ho
    have key : ∀ (i : Nat) (u : Value), i < 4 → (n.is[j].vals)[i]? = some u → w.cell? ⟨g, j * 4 + i, none⟩ = some u := fun i u hi hu => own_cell ho _ u ((rowV_get Ix.vals 4 Ix.vlen n.is j hj i hi).trans hu)
    exact ⟨g, c, e, hle, frozen_of hb, key 0 _ (by omega) rfl, key 1 _ (by omega) rfl, key 2 _ (by omega) rfl, key 3 _ (by omega) rfl⟩
/-- Where one below it lies. -/
theorem NdM.kid (h : NdM w n) {j : Nat} (hj : j < n.ps.length) : ∃ g c, n.u = .slice (some ⟨g, 0, none⟩) n.ps.length c ∧ n.ps.length ≤ c ∧ w.cell? ⟨g, j, none⟩ = some (.pointer (some ⟨n.ps[j], 0, none⟩)) := by
  rcases h.kids.2 with ⟨_, h0⟩ | ⟨g, c, cur, e, _, hb, hle, _⟩
  · omega
  · have ho := h.kids
    rw [e] at ho
    refine ⟨g, c, e, hle, ?_⟩
    have := own_cell ho _ _ ((rowV_get PV 1 PV.len n.ps j hj 0 (by omega)).trans rfl)
    simpa using this
end
set_option maxHeartbeats 1000000 in
theorem leaf_any {w : World} {n : Nd} (h : NdM w n) : Calls Try.prog 109 #[.pointer (some ⟨n.p, 0, none⟩)] w fun e w' => e = .returned (.bool ((n.ps.length : Int) == 0)) ∧ w = w' := by
  have c1 := h.c1
  obtain ⟨A, c, e, _, _, _⟩ := rdv_own h.kids
  rw [e] at c1
  obtain ⟨p, hp⟩ : ∃ p, p = n.p := ⟨_, rfl⟩
  obtain ⟨m, hm⟩ : ∃ m, m = n.ps.length := ⟨_, rfl⟩
  rw [← hp, ← hm] at c1
  rw [← hp, ← hm]
  clear h e hp hm
  go_enter Try.func109, Try.ntmps109
  go_wp2_with fail
  go_ret
  exact ⟨rfl, rfl⟩
set_option maxHeartbeats 1000000 in
theorem find_any {w : World} {n : Nd} (h : NdM w n) (hu : Up n.is) (hl : n.is.length ≤ 1000) (k : Int) : Calls Try.prog 108 #[.pointer (some ⟨n.p, 0, none⟩), .int .i64 k] w fun e w' => e = .returned (.tuple #[.int .i64 (place n.is k : Int), .bool (foundB n.is k)]) ∧ Below w.heap.size w w' := by
  have c0 := h.c0
  obtain ⟨A, c, e, hr, _, _⟩ := h.items
  rw [e] at c0
  have HS := Lib.hid (search_any A c n.is k w hr (by omega) hu)
  obtain ⟨p, hp⟩ : ∃ p, p = n.p := ⟨_, rfl⟩
  obtain ⟨q, hq⟩ : ∃ q, q = place n.is k := ⟨_, rfl⟩
  obtain ⟨b, hb⟩ : ∃ b, b = foundB n.is k := ⟨_, rfl⟩
  obtain ⟨m, hm⟩ : ∃ m, m = n.is.length := ⟨_, rfl⟩
  rw [← hp, ← hm] at c0
  rw [← hq, ← hb, ← hm] at HS
  rw [← hp, ← hq, ← hb]
  clear h e hp hq hb hm hr hu hl
  go_enter Try.func108, Try.ntmps108
  go_wp2_with fail
  refine Calls.mono HS.out ?_
  rintro e w1 ⟨rfl, b1⟩
  go_wp2_with fail
  go_ret2
  exact ⟨rfl, b1⟩
end Go.Proofs.Ytejpjbmbcdgomaa
