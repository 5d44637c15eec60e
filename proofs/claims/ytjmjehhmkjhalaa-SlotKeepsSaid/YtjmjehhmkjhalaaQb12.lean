/- DWait: put together. -/
import Derived.Test.YtjmjehhmkjhalaaQb11
/- One write more waits: the memory. -/
namespace Go.Proofs.Ytjmjehhmkjhalaa
set_option maxRecDepth 100000
open Go.RowKit

/-- One cell of a row of devices set. -/
theorem rowD_set (L : List DM) (j r : Nat) (hj : j < L.length) (hr : r < 3) (d' : DM) (u : Value) (hd : d'.vals = (L[j].vals).set r u) : (rowV DM.vals L).set (j * 3 + r) u = rowV DM.vals (L.set j d') := by
  apply List.ext_getElem?
  intro i
  by_cases hi : i < L.length * 3
  · have h1 : i / 3 < L.length := by omega
    have h2 : i % 3 < 3 := by omega
    have e : i / 3 * 3 + i % 3 = i := by omega
    have h3 := rowV_get DM.vals 3 DM.vlen L (i / 3) h1 (i % 3) h2
    have h4 := rowV_get DM.vals 3 DM.vlen (L.set j d') (i / 3) (by rw [List.length_set]; exact h1) (i % 3) h2
    rw [e] at h3 h4
    rw [h4, List.getElem?_set, List.getElem_set]
    by_cases hq : j = i / 3
    · rw [if_pos hq, hd, List.getElem?_set]
      have hlen : (L[j].vals).length = 3 := DM.vlen _
      have hlen2 : (rowV DM.vals L).length = L.length * 3 := rowV_length DM.vals 3 DM.vlen L
      by_cases hr2 : r = i % 3
      · rw [if_pos (by omega), if_pos hr2, if_pos (by omega), if_pos (by omega)]
      · rw [if_neg (by omega), if_neg hr2, h3]
        congr 2
        subst hq
        rfl
    · rw [if_neg hq, if_neg (by omega), h3]
  · rw [List.getElem?_eq_none (by rw [List.length_set, rowV_length DM.vals 3 DM.vlen]; omega), List.getElem?_eq_none (by rw [rowV_length DM.vals 3 DM.vlen, List.length_set]; omega)]
section
variable {w w' : World} {F : Nat → Prop} {g : Nat} {p : Pw} {v : Value} {L : List DM} {j : Nat}
/-- A device's cells changed, in a world that left the other devices. -/
theorem SetM.turn {b c r : Nat} {F' : Nat → Prop} {d' : DM} {u : Value} (h : SetM w F g p (.slice (some ⟨b, 0, none⟩) L.length c) L) (hj : j < L.length) (hr : r < 3) (hd : d'.vals = (L[j].vals).set r u)
    (_ : w.heap.size ≤ w'.heap.size) (hkeep : ∀ k, k < w.heap.size → k ≠ L[j].m → L[j].v.ownBlock ≠ some k → w'.heap[k]? = w.heap[k]?)
    (hF : ∀ k, F k → F' k) (hlt : ∀ k, F' k → k < w'.heap.size) (hok : DMok w' F' d')
    (hm : d'.m = L[j].m) (hv : ∀ q, d'.v.ownBlock = some q → L[j].v.ownBlock = some q ∨ w.heap.size ≤ q) :
    w'.cell? ⟨b, j * 3 + r, none⟩ = (L[j].vals)[r]? ∧ w'.frozen? ⟨b, j * 3 + r, none⟩ = false ∧ SetM (w'.setCell ⟨b, j * 3 + r, none⟩ u) F' g p (.slice (some ⟨b, 0, none⟩) L.length c) (L.set j d') := by
  have hdj := h.each j hj
  have hbF := h.Fv b rfl
  have hblt := h.Flt b hbF
  obtain ⟨_, hrow⟩ := h.own
  have hbb : ∃ cur, w.heap[b]? = some (.cells cur 151 (0, 0)) := by
    rcases hrow with ⟨h0, _⟩ | ⟨b', cap, cur, e, _, hb, _⟩
    · cases h0
    · injection e with e; injection e with e; injection e with e
      subst e
      exact ⟨cur, hb⟩
  obtain ⟨cur, hcur⟩ := hbb
  have hbm : b ≠ L[j].m := fun e => map_ne hdj.map hcur e.symm
  have hbv : L[j].v.ownBlock ≠ some b := type_ne hdj.waits hcur (by decide)
  have hb' := hkeep b hblt hbm hbv
  have hcur' := hb'.trans hcur
  have hgm : g ≠ L[j].m := fun e => map_ne hdj.map h.block e.symm
  have hgv : L[j].v.ownBlock ≠ some g := type_ne hdj.waits h.block (by decide)
  have hg' := hkeep g h.glt hgm hgv
  have hgb : g ≠ b := fun e => by
    have hx := h.block
    rw [e, hcur] at hx
    injection hx with hx
    injection hx with _ a2
    exact absurd a2 (by decide)
  have hown' : w'.ownsRow 0 151 3 (.slice (some ⟨b, 0, none⟩) L.length c) L.length (rowV DM.vals L) := own_same h.own fun q e => by injection e with e; subst e; exact hb'
  have keep2 : ∀ k, k ≠ b → (w'.setCell ⟨b, j * 3 + r, none⟩ u).heap[k]? = w'.heap[k]? := fun k hk => Deep.blk_setCell_other w' ⟨b, j * 3 + r, none⟩ u k hk
  have hlen : (L.set j d').length = L.length := List.length_set ..
  refine ⟨?_, frozen_at hcur' _, ⟨hF g h.Fg, fun k hk => by rw [World.size_setCell]; exact hlt k hk, (keep2 g hgb).trans (hg'.trans h.block), ?_, fun k hk => hF k (h.Fv k hk), fun i hi => ?_, fun i k hi hk hne => ?_⟩⟩
  · have hx := hown'.cells (g := b) rfl (j * 3 + r) ((L[j].vals)[r]'(by rw [DM.vlen]; exact hr)) ((rowV_get DM.vals 3 DM.vlen L j hj r hr).trans (List.getElem?_eq_getElem _))
    rw [addr_plus, Nat.zero_add] at hx
    rw [hx, List.getElem?_eq_getElem]
  · rw [hlen]
    have := own_set1 hown' (j * 3 + r) u
    rw [rowD_set L j r hj hr d' u hd] at this
    exact this
  · rw [hlen] at hi
    rw [List.getElem_set]
    by_cases e : j = i
    · rw [if_pos e]
      exact ⟨hok.map.keep (keep2 _ (map_ne hok.map hcur')), hok.Fm, own_same hok.waits fun q hq => keep2 q (fun e2 => type_ne hok.waits hcur' (by decide) (by rw [hq, e2])), hok.Fw⟩
    · rw [if_neg e]
      have hi' := h.each i hi
      have ha := h.apart j i hj hi e
      have k1 : w'.heap[L[i].m]? = w.heap[L[i].m]? := hkeep _ (h.Flt _ hi'.Fm) (fun e2 => ha.1 e2.symm) (map_row hi'.map hdj.waits)
      refine ⟨(hi'.map.keep k1).keep (keep2 _ (map_ne hi'.map hcur)), hF _ hi'.Fm, own_same (own_same hi'.waits fun q hq => ?_) fun q hq => keep2 q (fun e2 => type_ne hi'.waits hcur (by decide) (by rw [hq, e2])), fun q hq => hF q (hi'.Fw q hq)⟩
      exact hkeep q (h.Flt q (hi'.Fw q hq)) (fun e2 => map_row hdj.map hi'.waits (by rw [hq, e2])) (fun e2 => ha.2 q e2 hq)
  · rw [hlen] at hi hk
    rw [List.getElem_set, List.getElem_set]
    have old : ∀ i (hi : i < L.length), ∀ q, L[i].v.ownBlock = some q → q < w.heap.size := fun i hi q hq => h.Flt q ((h.each i hi).Fw q hq)
    by_cases e1 : j = i
    · have e2 : j ≠ k := fun e => hne (e1.symm.trans e)
      rw [if_pos e1, if_neg e2, hm]
      have ha := h.apart j k hj hk e2
      refine ⟨ha.1, fun q hq hq2 => ?_⟩
      rcases hv q hq with h3 | h3
      · exact ha.2 q h3 hq2
      · have := old k hk q hq2; omega
    · by_cases e2 : j = k
      · rw [if_neg e1, if_pos e2, hm]
        have ha := h.apart i j hi hj (fun e => e1 e.symm)
        refine ⟨ha.1, fun q hq hq2 => ?_⟩
        rcases hv q hq2 with h3 | h3
        · exact ha.2 q hq h3
        · have := old i hi q hq; omega
      · rw [if_neg e1, if_neg e2]
        exact h.apart i k hi hk hne
/-- One write more. -/
theorem SetM.wait {b c : Nat} {vw : Value} {o : Obj} {W' : World} (h : SetM w F g p (.slice (some ⟨b, 0, none⟩) L.length c) L) (hj : j < L.length) (y : Wx)
    (ho : W'.ownsRow 0 190 65 vw (L[j].dk.waits.length + 1) (rowV Wx.vals L[j].dk.waits ++ y.vals)) (hg : (w.alloc o).grownBy W' L[j].v.ownBlock) (hk : vw.ownBlock = L[j].v.ownBlock ∨ vw.ownBlock = some (w.alloc o).heap.size) :
    W'.cell? ⟨b, j * 3 + 2, none⟩ = some L[j].v ∧ W'.frozen? ⟨b, j * 3 + 2, none⟩ = false ∧
    SetM (W'.setCell ⟨b, j * 3 + 2, none⟩ vw) (fun k => F k ∨ vw.ownBlock = some k) g p (.slice (some ⟨b, 0, none⟩) L.length c) (L.set j ⟨⟨L[j].dk.size, L[j].dk.sure, L[j].dk.waits ++ [y]⟩, L[j].m, L[j].n, vw⟩) ∧
    Chg w (W'.setCell ⟨b, j * 3 + 2, none⟩ vw) F (fun k => F k ∨ vw.ownBlock = some k) := by
  have hdj := h.each j hj
  have hsz := hg.size
  rw [World.size_alloc] at hsz hk
  have hkeep : ∀ k, k < w.heap.size → L[j].v.ownBlock ≠ some k → W'.heap[k]? = w.heap[k]? := fun k hk hne => (hg.block k (by rw [World.size_alloc]; omega) (fun e => hne e.symm)).trans (heap_alloc_old w o hk)
  have hown : W'.ownsRow 0 190 65 vw (L[j].dk.waits ++ [y]).length (rowV Wx.vals (L[j].dk.waits ++ [y])) := by
    rw [List.length_append, rowV_append]
    have e : rowV Wx.vals [y] = y.vals := by simp [rowV]
    rw [e]
    exact ho
  have ht := h.turn (w' := W') (F' := fun k => F k ∨ vw.ownBlock = some k) (r := 2) (u := vw) (d' := ⟨⟨L[j].dk.size, L[j].dk.sure, L[j].dk.waits ++ [y]⟩, L[j].m, L[j].n, vw⟩) hj (by omega) rfl (by omega) (fun k hk _ hne => hkeep k hk hne) (fun k e => .inl e)
    (fun k e => by
      rcases e with e | e
      · have := h.Flt k e; omega
      · exact (hown.lt k e).2)
    ⟨hdj.map.keep (hkeep _ (h.Flt _ hdj.Fm) (map_row hdj.map hdj.waits)), .inl hdj.Fm, hown, fun q e => .inr e⟩ rfl
    (fun q e => by
      rcases hk with e2 | e2
      · exact .inl (e2.symm.trans e)
      · right; rw [e2] at e; injection e with e; omega)
  refine ⟨ht.1, ht.2.1, ht.2.2, ⟨hg.os, hg.tape, hg.output, by rw [World.size_setCell]; omega, fun k hk hne => ?_, fun k e => ?_⟩⟩
  · have hkb : k ≠ b := fun e => hne (by rw [e]; exact h.Fv b rfl)
    exact (Deep.blk_setCell_other W' ⟨b, j * 3 + 2, none⟩ vw k hkb).trans (hkeep k hk (fun e => hne (hdj.Fw k e)))
  · rcases e with e | e
    · exact .inl e
    · rcases hk with e2 | e2
      · exact .inl (hdj.Fw k (e2.symm.trans e))
      · right; rw [e2] at e; injection e with e; omega
end
end Go.Proofs.Ytjmjehhmkjhalaa
