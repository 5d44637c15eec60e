/- Copies of feet in a row of one's own. -/
import Derived.Test.YtmicheheibkmjaaFCop
namespace Go.Proofs.Ytmicheheibkmjaa
set_option maxRecDepth 100000
open Go.RowKit Go.Shelf

/-- Its rows lie in other blocks than this one. -/
def Away (r : Nat) (z : FV) : Prop := (∀ ad, z.A = some ad → 0 < z.n → ad.block ≠ r) ∧ (∀ ad, z.A2 = some ad → 0 < z.n2 → ad.block ≠ r) ∧ (∀ ad, z.A3 = some ad → 0 < z.n3 → ad.block ≠ r)
theorem NewF.away {B r : Nat} {z : FV} (h : NewF B z) (hr : r < B) : Away r z :=
  ⟨fun ad e h0 => by have := h.1 ad e h0; omega, fun ad e h0 => by have := h.2.1 ad e h0; omega, fun ad e h0 => by have := h.2.2 ad e h0; omega⟩
theorem rowAt_lt {α : Type} {f : α → List Value} {k : Nat} {w : World} {A : Option Addr} {n : Nat} {l : List α} (hf : ∀ x, (f x).length = k) (hk : 0 < k) (h : RowAt f k w A n l) (hn : 0 < n) : ∀ ad, A = some ad → ad.block < w.heap.size := by
  intro ad e
  obtain ⟨b, off, e2, hc⟩ := RowAt.cells h hf hn
  rw [e] at e2
  injection e2 with e2
  subst e2
  have hl : 0 < l.length := by rw [h.len]; exact hn
  have h0 := hc 0 hl 0 ((f l[0])[0]'(by rw [hf]; exact hk)) hk (List.getElem?_eq_getElem _)
  have h1 := World.block_lt_of_cell? _ _ h0
  exact h1
theorem rowAt_grown {α : Type} {f : α → List Value} {k : Nat} {w w' : World} {A : Option Addr} {n : Nat} {l : List α} {row : Option Nat} (hf : ∀ x, (f x).length = k) (hk : 0 < k) (h : RowAt f k w A n l) (hg : w.grownBy w' row) (ha : ∀ r, row = some r → ∀ ad, A = some ad → 0 < n → ad.block ≠ r) : RowAt f k w' A n l := by
  refine ⟨h.len, h.row.1, fun hn => ?_⟩
  obtain ⟨b, off, e, hc⟩ := h.row.2 hn
  have hlt := rowAt_lt hf hk h hn _ e
  refine ⟨b, off, e, fun j u hj => ?_⟩
  rw [World.cell?_of_block (w := w) (hg.block b hlt (fun e2 => ha b e2.symm _ e hn rfl))]
  exact hc j u hj
theorem FtG.grown {w w' : World} {z : FV} {f : Ft} {row : Option Nat} (h : FtG w z f) (hg : w.grownBy w' row) (ha : ∀ r, row = some r → Away r z) : FtG w' z f :=
  ⟨⟨rowAt_grown K.len (by decide) h.at_.rs hg (fun r e => (ha r e).1), rowAt_grown Sp.len (by decide) h.at_.sp hg (fun r e => (ha r e).2.1), rowAt_grown K.len (by decide) h.at_.ws hg (fun r e => (ha r e).2.2), h.at_.small⟩, h.nil1, h.nil2, h.nil3, h.fit⟩
theorem FtG.away_new {w : World} {z : FV} {f : Ft} (h : FtG w z f) {r : Nat} (hr : w.heap.size ≤ r) : Away r z :=
  ⟨fun ad e h0 => by have := rowAt_lt K.len (by decide) h.at_.rs h0 ad e; omega, fun ad e h0 => by have := rowAt_lt Sp.len (by decide) h.at_.sp h0 ad e; omega, fun ad e h0 => by have := rowAt_lt K.len (by decide) h.at_.ws h0 ad e; omega⟩
def FV.csl (x : FV) : List Value := [.slice x.A x.n x.c, .slice x.A2 x.n2 x.c2, .slice x.A3 x.n3 x.c3]
theorem FV.csl_len (x : FV) : x.csl.length = 3 := rfl
theorem csl_one (x : FV) : ∀ u ∈ x.csl, u.oneCell' = true := by
  intro u hu
  simp [FV.csl] at hu
  rcases hu with rfl | rfl | rfl <;> rfl
theorem elem22 : ElemT Try.prog 22 30 3 72 :=
  ⟨Try.underlying22, by kernel_rfl, by
    obtain ⟨i, hi, hz, h1, _⟩ := info_parts (show (Try.prog.info? 30).map (fun i => (i.zero, i.size, i.bytes)) = some (some (.agg #[.slice none 0 0, .slice none 0 0, .slice none 0 0]), 3, 72) by kernel_rfl)
    exact ⟨i, _, hi, hz, rfl⟩, by decide⟩
/-- Copies of the first feet, in a row of one's own. -/
structure MiI (B : Nat) (W : World) (v : Value) (ms : List FV) (fs : List Ft) : Prop where
  own : W.ownsRow B 30 3 v ms.length (rowV FV.csl ms)
  each : ∀ j (h : j < ms.length), FtG W ms[j] (fs.getD j noFt) ∧ ∀ r, v.ownBlock = some r → Away r ms[j]
theorem MiI.below {B : Nat} {W W' : World} {v : Value} {ms : List FV} {fs : List Ft} (h : MiI B W v ms fs) (hb : Below W.heap.size W W') : MiI B W' v ms fs :=
  ⟨ownv_below h.own hb, fun j hj => ⟨(h.each j hj).1.below hb, (h.each j hj).2⟩⟩
theorem MiI.push {B : Nat} {W W' : World} {v v' : Value} {ms : List FV} {fs : List Ft} (h : MiI B W v ms fs) (z : FV) (hz : FtG W z (fs.getD ms.length noFt)) (hn : ∀ r, v.ownBlock = some r → Away r z)
    (ho : W'.ownsRow B 30 3 v' (ms.length + 1) (rowV FV.csl ms ++ z.csl)) (hg : W.grownBy W' v.ownBlock) (hk : v'.ownBlock = v.ownBlock ∨ v'.ownBlock = some W.heap.size) : MiI B W' v' (ms ++ [z]) fs := by
  have key : ∀ (y : FV) (f : Ft), FtG W y f → (∀ r, v.ownBlock = some r → Away r y) → FtG W' y f ∧ ∀ r, v'.ownBlock = some r → Away r y := fun y f hy ha =>
    ⟨hy.grown hg ha, fun r hr => by
      rcases hk with e | e
      · exact ha r (e.symm.trans hr)
      · rw [e] at hr
        injection hr with hr
        exact hy.away_new (Nat.le_of_eq hr)⟩
  refine ⟨?_, fun j hj => ?_⟩
  · rw [List.length_append, rowV_append]
    have e : rowV FV.csl [z] = z.csl := by simp [rowV]
    rw [e]
    exact ho
  · by_cases hlt : j < ms.length
    · rw [List.getElem_append_left hlt]
      exact key _ _ (h.each j hlt).1 (h.each j hlt).2
    · have e : j = ms.length := by simp at hj; omega
      subst e
      rw [List.getElem_concat_length rfl]
      exact key z _ hz hn
/-- Such a row reads as feet. -/
theorem MiI.feet {B : Nat} {W : World} {A : Option Addr} {n c : Nat} {ms : List FV} {fs : List Ft} (h : MiI B W (.slice A n c) ms fs) (hl : ms.length = fs.length) (hn : ms.length = n) : FtsG W A n fs := by
  have ho := h.own
  rw [hn] at ho
  obtain ⟨hrow, _⟩ := row_of ho hn
  refine ⟨by rw [← hl]; exact hn, fun h0 => ?_⟩
  obtain ⟨b, off, e, hc⟩ := RowAt.cells hrow FV.csl_len h0
  refine ⟨b, off, e, fun j hj => ?_⟩
  have hjm : j < ms.length := by rw [hn]; exact hj
  exact ⟨ms[j], (h.each j hjm).1, hc j hjm 0 _ (by omega) rfl, hc j hjm 1 _ (by omega) rfl, hc j hjm 2 _ (by omega) rfl⟩
end Go.Proofs.Ytmicheheibkmjaa
