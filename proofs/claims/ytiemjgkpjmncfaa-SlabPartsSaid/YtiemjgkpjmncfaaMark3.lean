/- The rows while ten marks are appended to each. -/
import Derived.Test.YtiemjgkpjmncfaaMark
namespace Go.Proofs.Ytiemjgkpjmncfaa
set_option maxRecDepth 100000
open Go.RowKit

theorem elemL : ElemT Try.prog 86 45 1 24 :=
  ⟨Try.underlying86, by kernel_rfl, by
    obtain ⟨i, hi, hz, h1, _⟩ := info_parts (show (Try.prog.info? 45).map (fun i => (i.zero, i.size, i.bytes)) = some (some (.slice none 0 0), 1, 24) by kernel_rfl)
    exact ⟨i, _, hi, hz, rfl⟩, by decide⟩
theorem Rdv.same {w w' : World} {A : Option Addr} {n size : Nat} {ys : List Value} (h : Rdv w A n size ys) (hb : ∀ b off, A = some ⟨b, off, none⟩ → w'.heap[b]? = w.heap[b]?) : Rdv w' A n size ys :=
  ⟨h.1, fun hn => by
    obtain ⟨b, off, e, hc⟩ := h.2 hn
    exact ⟨b, off, e, fun j u hj => (World.cell?_of_block (a := ⟨b, off + j, none⟩) (hb b off e)).trans (hc j u hj)⟩⟩
/-- The beginning of a row. -/
theorem Rdv.front {w : World} {A : Option Addr} {n m : Nat} {xs ys : List Nat} (h : Rdv w A n 1 (valsB (xs ++ ys))) (hm : xs.length = m) (hmn : m ≤ n) : Rdv w A m 1 (valsB xs) :=
  ⟨by rw [valsB_length]; omega, fun hp => by
    obtain ⟨b, off, e, hc⟩ := h.2 (by omega)
    refine ⟨b, off, e, fun j u hj => hc j u ?_⟩
    rw [valsB_append, List.getElem?_append_left (List.getElem?_eq_some_iff.1 hj).1]
    exact hj⟩
theorem marks_front (k m n : Nat) (h : m ≤ n) : ∃ ys, marks k n = marks k m ++ ys := ⟨(marks k n).drop m, by rw [← marks_take k m n h, List.take_append_drop]⟩
/-- The row that is being appended to: what it reads as, and what else is left as it was. w: the world when it began. -/
structure Ten (w wr : World) (k j : Nat) (A0 : Option Addr) (n0 : Nat) (X : Option Addr) (cx : Nat) : Prop where
  own : Og wr X j cx (marks k j)
  old : Rdv wr A0 n0 1 (valsB (marks k n0))
  low : n0 ≤ j
  at_ : X = A0 ∨ ∃ g, X = some ⟨g, 0, none⟩ ∧ w.heap.size ≤ g
  rest : ∀ b, b < w.heap.size → A0 ≠ some ⟨b, 0, none⟩ → wr.heap[b]? = w.heap[b]?
  size : w.heap.size ≤ wr.heap.size
theorem Ten.start {w : World} {k n0 c : Nat} {A0 : Option Addr} (h : Og w A0 n0 c (marks k n0)) : Ten w w k n0 A0 n0 A0 c :=
  ⟨h, h.rdv, Nat.le_refl _, .inl rfl, fun _ _ _ => rfl, Nat.le_refl _⟩
theorem Ten.next {w wr w' : World} {k j n0 cx g' c' : Nat} {A0 X : Option Addr} (h : Ten w wr k j A0 n0 X cx) (h0 : ∀ b off, A0 = some ⟨b, off, none⟩ → off = 0 ∧ b < w.heap.size) (ha : Apn wr w' X j (marks k j) (mrk k j) g' c') : Ten w w' k (j + 1) A0 n0 (some ⟨g', 0, none⟩) c' := by
  obtain ⟨ho, hsz, hh, _⟩ := ha
  rw [← marks_succ] at ho
  have hle := h.size
  refine ⟨ho, ?_, Nat.le_succ_of_le h.low, ?_, fun b hb hne => ?_, Nat.le_trans h.size hsz⟩
  · by_cases hA : A0 = some ⟨g', 0, none⟩
    · obtain ⟨ys, hys⟩ := marks_front k n0 (j + 1) (Nat.le_succ_of_le h.low)
      have h5 := ho.rdv
      rw [hys] at h5
      rw [hA]
      exact h5.front (marks_length _ _) (Nat.le_succ_of_le h.low)
    · refine h.old.same fun b off e => ?_
      obtain ⟨rfl, hb⟩ := h0 b off e
      rcases hh with ⟨_, h6⟩ | ⟨_, h6⟩
      · exact h6 b (by omega) (fun e2 => hA (by rw [e, e2]))
      · exact h6 b (by omega)
  · rcases hh with ⟨h5, _⟩ | ⟨h5, _⟩
    · rcases h.at_ with h6 | ⟨g, h6, h7⟩
      · exact .inl (h5.symm.trans h6)
      · rw [h5] at h6
        injection h6 with h6
        injection h6 with h6
        exact .inr ⟨g', rfl, by omega⟩
    · exact .inr ⟨g', rfl, by omega⟩
  · rcases hh with ⟨h5, h6⟩ | ⟨_, h6⟩
    · refine (h6 b (by omega) (fun e => ?_)).trans (h.rest b hb hne)
      subst e
      rcases h.at_ with h7 | ⟨g, h7, h8⟩
      · exact hne (h7.symm.trans h5)
      · rw [h5] at h7
        injection h7 with h7
        injection h7 with h7
        omega
    · exact (h6 b (by omega)).trans (h.rest b hb hne)
/-- The grown rows. -/
def outs (n g c : Nat → Nat) (k : Nat) : List Value := (List.range k).map fun i => .slice (some ⟨g i, 0, none⟩) (n i + 10) (c i)
theorem outs_length (n g c : Nat → Nat) (k : Nat) : (outs n g c k).length = k := by simp [outs]
theorem outs_succ (n g c : Nat → Nat) (k : Nat) : outs n g c (k + 1) = outs n g c k ++ [.slice (some ⟨g k, 0, none⟩) (n k + 10) (c k)] := by simp [outs, List.range_succ]
theorem outs_get (n g c : Nat → Nat) (k i : Nat) (h : i < k) : (outs n g c k)[i]? = some (.slice (some ⟨g i, 0, none⟩) (n i + 10) (c i)) := by simp [outs, h]
theorem outs_upd (n g c : Nat → Nat) (k x y : Nat) : outs n (fun i => if i = k then x else g i) (fun i => if i = k then y else c i) k = outs n g c k := by
  unfold outs
  apply List.map_congr_left
  intro i hi
  have : ¬ i = k := by have := List.mem_range.1 hi; omega
  simp [this]
/-- While the third loop runs: rows below k are grown. z: the size of the memory when it began. -/
structure S3 (w : World) (z G K : Nat) (A : Nat → Option Addr) (n c : Nat → Nat) (k : Nat) (v : Value) (g' c' : Nat → Nat) : Prop where
  rows : Rows w G K A n c
  old : ∀ i, i < K → Rdv w (A i) (n i) 1 (valsB (marks i (n i)))
  own : ∀ i, k ≤ i → i < K → Og w (A i) (n i) (c i) (marks i (n i))
  new : ∀ i, i < k → Rdv w (some ⟨g' i, 0, none⟩) (n i + 10) 1 (valsB (marks i (n i + 10)))
  typ : ∀ i, i < k → ∃ cur, w.heap[g' i]? = some (.cells cur 5 (0, 0))
  far : ∀ i, i < k → A i = some ⟨g' i, 0, none⟩ ∨ z ≤ g' i
  out : w.ownsRow z 45 1 v k (outs n g' c' k)
  size : z ≤ w.heap.size
/-- All rows lie below z, at the beginning of their blocks. -/
def Lowz (z G K : Nat) (A : Nat → Option Addr) : Prop := G < z ∧ ∀ i, i < K → ∀ b off, A i = some ⟨b, off, none⟩ → off = 0 ∧ b < z
theorem S3.mono {w w2 : World} {z G K k g2 c2 : Nat} {A : Nat → Option Addr} {n c g' c' : Nat → Nat} {v v2 : Value} (h : S3 w z G K A n c k v g' c') (L : Lowz z G K A) (D : Sep G K A n) (hk : k < K)
    (hsz : w.heap.size ≤ w2.heap.size) (hold : Rdv w2 (A k) (n k) 1 (valsB (marks k (n k)))) (hnew : Rdv w2 (some ⟨g2, 0, none⟩) (n k + 10) 1 (valsB (marks k (n k + 10)))) (htyp : ∃ cur, w2.heap[g2]? = some (.cells cur 5 (0, 0)))
    (hat : A k = some ⟨g2, 0, none⟩ ∨ w.heap.size ≤ g2) (hout : w2.ownsRow z 45 1 v2 (k + 1) (outs n g' c' k ++ [.slice (some ⟨g2, 0, none⟩) (n k + 10) c2]))
    (hrest : ∀ b, b < w.heap.size → A k ≠ some ⟨b, 0, none⟩ → (b < z ∨ ∃ cur, w.heap[b]? = some (.cells cur 5 (0, 0))) → w2.heap[b]? = w.heap[b]?) :
    S3 w2 z G K A n c (k + 1) v2 (fun i => if i = k then g2 else g' i) (fun i => if i = k then c2 else c' i) := by
  have hz := h.size
  have keep : ∀ i, i < K → i ≠ k → ∀ b off, A i = some ⟨b, off, none⟩ → w2.heap[b]? = w.heap[b]? := fun i hi hik b off e => by
    obtain ⟨rfl, hb⟩ := L.2 i hi b off e
    exact hrest b (by omega) (fun e2 => D.apart i k hi hk hik b e e2) (.inl hb)
  have keepN : ∀ i, i < k → w2.heap[g' i]? = w.heap[g' i]? := fun i hi => by
    obtain ⟨cur, hc⟩ := h.typ i hi
    refine hrest _ (Array.getElem?_eq_some_iff.1 hc).1 (fun e => ?_) (.inr ⟨cur, hc⟩)
    rcases h.far i hi with h1 | h1
    · exact D.apart i k (by omega) hk (by omega) _ h1 e
    · have := (L.2 k hk _ _ e).2
      omega
  refine ⟨⟨fun i hi => ?_, Nat.lt_of_lt_of_le h.rows.lt hsz⟩, fun i hi => ?_, fun i hki hi => ?_, fun i hi => ?_, fun i hi => ?_, fun i hi => ?_, ?_, by omega⟩
  · have hG := L.1
    refine (World.cell?_of_block (a := ⟨G, i, none⟩) (hrest G (by omega) (fun e => D.off k hk e) (.inl hG))).trans (h.rows.tab i hi)
  · by_cases hik : i = k
    · subst hik; exact hold
    · exact (h.old i hi).same (keep i hi hik)
  · exact (h.own i (by omega) hi).stays fun b e => keep i hi (by omega) b 0 e
  · by_cases hik : i = k
    · subst hik; simpa using hnew
    · simp only [hik, if_false]
      exact (h.new i (by omega)).same fun b off e => by
        injection e with e
        injection e with e1 e2
        subst e1
        exact keepN i (by omega)
  · by_cases hik : i = k
    · subst hik; simpa using htyp
    · simp only [hik, if_false]
      rw [keepN i (by omega)]
      exact h.typ i (by omega)
  · by_cases hik : i = k
    · subst hik
      rcases hat with h1 | h1
      · exact .inl (by simpa using h1)
      · exact .inr (by simp only [if_true]; omega)
    · simp only [hik, if_false]
      exact h.far i (by omega)
  · rw [outs_succ, outs_upd]
    simpa using hout
theorem heap_old (w : World) (o : Obj) (b : Nat) (h : b < w.heap.size) : (w.alloc o).heap[b]? = w.heap[b]? := heap_alloc_old w o h
theorem S3.start {w : World} {G K : Nat} {A : Nat → Option Addr} {n c : Nat → Nat} (h : S1 w G K A n c K 0) :
    S3 (w.alloc (.cells #[] 45)) w.heap.size G K A n c 0 (.slice (some ⟨w.heap.size, 0, none⟩) 0 0) (fun _ => 0) (fun _ => 0) ∧ Lowz w.heap.size G K A := by
  have ha := h.all
  have hlow : ∀ i, i < K → ∀ b off, A i = some ⟨b, off, none⟩ → off = 0 ∧ b < w.heap.size := fun i hi b off e => by
    rcases (ha i hi).kind with ⟨h1, _⟩ | ⟨g, h1, h2⟩
    · rw [h1] at e; cases e
    · rw [h1] at e
      injection e with e
      injection e with e1 e2
      subst e1 e2
      exact ⟨rfl, h2.lt⟩
  refine ⟨⟨⟨fun i hi => ?_, by rw [World.size_alloc]; have := h.1.lt; omega⟩, fun i hi => ?_, fun i _ hi => ?_, fun i hi => by omega, fun i hi => by omega, fun i hi => by omega, ?_, by rw [World.size_alloc]; omega⟩, h.1.lt, hlow⟩
  · exact (World.cell?_of_block (a := ⟨G, i, none⟩) (heap_old w _ G h.1.lt)).trans (h.1.tab i hi)
  · exact (ha i hi).rdv.same fun b off e => heap_old w _ b (hlow i hi b off e).2
  · exact (ha i hi).stays fun b e => heap_old w _ b (hlow i hi b 0 e).2
  · exact own_empty w _ 45 1 45 rfl (Nat.le_refl _)
theorem S3.drewN {w : World} {z G K k : Nat} {A : Nat → Option Addr} {n c g' c' : Nat → Nat} {v : Value} (h : S3 w z G K A n c k v g' c') (t : Nat) : S3 (w.drewN t) z G K A n c k v g' c' :=
  ⟨⟨h.rows.tab, h.rows.lt⟩, h.old, h.own, h.new, h.typ, h.far, h.out, h.size⟩
theorem Ten.alloc {w wr : World} {k j n0 cx : Nat} {A0 X : Option Addr} (h : Ten w wr k j A0 n0 X cx) (h0 : ∀ b off, A0 = some ⟨b, off, none⟩ → off = 0 ∧ b < w.heap.size) (o : Obj) : Ten w (wr.alloc o) k j A0 n0 X cx := by
  have hs := h.size
  refine ⟨h.own.stays fun b e => heap_old wr o b ?_, h.old.same fun b off e => heap_old wr o b (by have := (h0 b off e).2; omega), h.low, h.at_, fun b hb hne => (heap_old wr o b (by omega)).trans (h.rest b hb hne), by rw [World.size_alloc]; omega⟩
  have h5 := h.own
  rw [e] at h5
  exact h5.lt
theorem own_kind {w : World} {z n : Nat} {v : Value} {xs : List Value} (h : w.ownsRow z 45 1 v n xs) (b : Nat) (hb : v.ownBlock = some b) : z ≤ b ∧ ∃ cur, w.heap[b]? = some (.cells cur 45 (0, 0)) := by
  rcases h.2 with ⟨rfl, _⟩ | ⟨g, cap, cur, rfl, h1, h2, _⟩
  · cases hb
  · cases hb
    exact ⟨h1, cur, h2⟩
theorem own_stays {w w' : World} {z n : Nat} {v : Value} {xs : List Value} (h : w.ownsRow z 45 1 v n xs) (hb : ∀ b, v.ownBlock = some b → w'.heap[b]? = w.heap[b]?) : w'.ownsRow z 45 1 v n xs := by
  refine ⟨h.1, ?_⟩
  rcases h.2 with h0 | ⟨g, cap, cur, rfl, h1, h2, h3⟩
  · exact .inl h0
  · exact .inr ⟨g, cap, cur, rfl, h1, (hb g rfl).trans h2, h3⟩
theorem S3.push {ws wx : World} {z G K k g cx : Nat} {A : Nat → Option Addr} {n c g' c' : Nat → Nat} {v : Value} (h : S3 ws z G K A n c k v g' c') (L : Lowz z G K A) (D : Sep G K A n) (hk : k < K) (T : Ten ws wx k (n k + 10) (A k) (n k) (some ⟨g, 0, none⟩) cx) (o : Obj) :
    (wx.alloc o).ownsRow z 45 1 v k (outs n g' c' k) ∧ ∀ w4 v2, w4.ownsRow z 45 1 v2 (k + 1) (outs n g' c' k ++ [.slice (some ⟨g, 0, none⟩) (n k + 10) cx]) → (wx.alloc o).grownBy w4 v.ownBlock →
      S3 w4 z G K A n c (k + 1) v2 (fun i => if i = k then g else g' i) (fun i => if i = k then cx else c' i) := by
  have hz := h.size
  have hsx := T.size
  have hin : ∀ b, v.ownBlock = some b → b < ws.heap.size ∧ wx.heap[b]? = ws.heap[b]? ∧ ∃ cur, ws.heap[b]? = some (.cells cur 45 (0, 0)) := fun b hb => by
    obtain ⟨h1, cur, h2⟩ := own_kind h.out b hb
    have h3 := (Array.getElem?_eq_some_iff.1 h2).1
    exact ⟨h3, T.rest b h3 (fun e => by have := (L.2 k hk b 0 e).2; omega), cur, h2⟩
  have hgx : g < wx.heap.size := T.own.lt
  obtain ⟨_, _, cg, hcg⟩ := Ow.parts T.own
  refine ⟨own_stays h.out fun b hb => ?_, fun w4 v2 hown hgr => ?_⟩
  · obtain ⟨h1, h2, _⟩ := hin b hb
    exact (heap_old wx o b (by omega)).trans h2
  · have hsz := hgr.size
    rw [World.size_alloc] at hsz
    have keep : ∀ b, b < wx.heap.size → v.ownBlock ≠ some b → w4.heap[b]? = wx.heap[b]? := fun b hb hne =>
      (hgr.block b (by rw [World.size_alloc]; omega) (fun e => hne e.symm)).trans (heap_old wx o b hb)
    have hgv : v.ownBlock ≠ some g := fun e => by
      obtain ⟨_, h2, cur, h3⟩ := hin g e
      rw [h2, h3] at hcg
      injection hcg with hcg
      injection hcg with _ hcg _
      exact absurd hcg (by decide)
    refine h.mono L D hk (by omega) ?_ ?_ ⟨cg, (keep g hgx hgv).trans hcg⟩ ?_ hown ?_
    · refine T.old.same fun b off e => ?_
      obtain ⟨_, hb⟩ := L.2 k hk b off e
      refine keep b (by omega) fun e2 => ?_
      have := (own_kind h.out b e2).1
      omega
    · exact T.own.rdv.same fun b off e => by
        injection e with e
        injection e with e1 _
        subst e1
        exact keep g hgx hgv
    · rcases T.at_ with h1 | ⟨g2, h1, h2⟩
      · exact .inl h1.symm
      · injection h1 with h1
        injection h1 with h1
        exact .inr (by omega)
    · intro b hb hne hor
      refine (keep b (by omega) fun e => ?_).trans (T.rest b hb hne)
      rcases hor with h1 | ⟨cur, h1⟩
      · have := (own_kind h.out b e).1
        omega
      · obtain ⟨_, _, cur2, h3⟩ := hin b e
        rw [h3] at h1
        injection h1 with h1
        injection h1 with _ h1 _
        exact absurd h1 (by decide)
def lenV : Value → Nat
  | .slice _ n _ => n
  | _ => 0
end Go.Proofs.Ytiemjgkpjmncfaa
