/- Which ones wait: the closure of graph.Keeps, and the library's search. -/
import Derived.Test.YtgdkgoiagjjccaaGRefK
import Derived.Test.YtgdkgoiagjjccaaGKey
import Derived.Deep.CutRange
import Derived.Deep.CutBlock
namespace Go.Proofs.Ytgdkgoiagjjccaa
set_option maxRecDepth 100000
open Go.RowKit Go.Shelf

/-- Truths in a block of one's own, and a box with their slice. -/
structure BV (B : Nat) (W0 : World) (g b n : Nat) (f : Nat → Bool) (W : World) : Prop where
  below : Below B W0 W
  lo : B ≤ g ∧ B ≤ b
  ne : g ≠ b
  cells : ∀ x, x < n → W.cell? ⟨g, x, none⟩ = some (.bool (f x))
  fr : ∀ o, W.frozen? ⟨g, o, none⟩ = false
  box : W.cell? ⟨b, 0, none⟩ = some (.slice (some ⟨g, 0, none⟩) n n)
section
variable {B : Nat} {W0 W : World} {g b n : Nat} {f : Nat → Bool}
theorem BV.drew (h : BV B W0 g b n f W) : BV B W0 g b n f W.drew := ⟨h.below.drew, h.lo, h.ne, h.cells, h.fr, h.box⟩
theorem BV.set (h : BV B W0 g b n f W) (k : Nat) (z : Bool) : BV B W0 g b n (upd f k z) (W.setCell ⟨g, k, none⟩ (.bool z)) := by
  refine ⟨h.below.setCell (p := ⟨g, k, none⟩) h.lo.1 _, h.lo, h.ne, fun x hx => ?_, fun o => by rw [World.frozen?_setCell]; exact h.fr o, by rw [set_blk h.ne]; exact h.box⟩
  by_cases e : x = k
  · subst e; rw [upd_same]; exact set_same (h.cells x hx)
  · rw [upd_other _ _ e, set_off e]; exact h.cells x hx
end
set_option maxHeartbeats 400000 in
theorem waits_any {B : Nat} {W0 W : World} {g b n : Nat} {f : Nat → Bool} (h : BV B W0 g b n f W) (j : Nat) (hj : j < n) (_ : n ≤ 9223372036854775807) :
    Calls Try.prog 62 #[.int .i64 (j : Int), .pointer (some ⟨b, 0, none⟩)] W fun e w' => e = .returned (.bool (!f j)) ∧ W = w' := by
  have c0 := h.cells j hj
  have x0 := h.box
  obtain ⟨r, hr⟩ : ∃ r, r = f j := ⟨_, rfl⟩
  rw [← hr] at c0 ⊢
  clear h hr
  go_enter Try.func62, Try.ntmps62
  go_wp2_with fail
  go_ret
  exact ⟨rfl, rfl⟩
set_option maxHeartbeats 1000000 in
theorem indexwaits_any {B : Nat} {W0 w : World} {g b m : Nat} {f : Nat → Bool} (hb : BV B W0 g b m f w) (A : Option Addr) (n c : Nat) (l : List Int) (h : Nums w A n l) (hl : ∀ x ∈ l, 0 ≤ x ∧ x < (m : Int)) (hn : n ≤ 9223372036854775807) (hm : m ≤ 9223372036854775807) :
    Calls Try.prog 87 #[.slice A n c, .func (.func 62) #[] #[.pointer (some ⟨b, 0, none⟩)]] w fun e w' => (∃ z : Int, e = .returned (.int .i64 z) ∧ decide (0 ≤ z) = l.any (fun j => !f j.toNat)) ∧ w = w' := by
  have HH := Lib.hid h
  have HBV := Lib.hid hb
  have HL := Lib.hid h.1
  have HM := Lib.hid hl
  have HX := Lib.hid (show (∀ j (hj : j < l.length), j < n → (!f l[j].toNat) = false) → l.any (fun j => !f j.toNat) = false from fun hno => by
    rw [List.any_eq_false]
    intro x hx
    obtain ⟨i, hi, he⟩ := List.getElem_of_mem hx
    rw [← he, hno i hi (by have := h.1; omega)]
    simp)
  have HE := Lib.hid (show ∀ j (hj : j < l.length), (!f l[j].toNat) = true → l.any (fun j => !f j.toNat) = true from fun j hj he => List.any_eq_true.2 ⟨_, List.getElem_mem hj, he⟩)
  obtain ⟨R, hR⟩ : ∃ R, R = l.any (fun j => !f j.toNat) := ⟨_, rfl⟩
  rw [← hR] at HX HE ⊢
  clear hR h hb hl
  go_enter Try.func87, Try.ntmps87
  go_wp2_with fail
  go_loop [5, 8] (fun _ i => ∃ q : Nat, i = .int .i64 (q : Int) ∧ q ≤ n ∧ Hid (∀ j (hj : j < l.length), j < q → (!f l[j].toNat) = false)) (fun _ i => n - (intOf i).toNat)
  case atStart => exact ⟨0, rfl, by omega, fun j _ h => by omega⟩
  case round =>
    obtain ⟨q, rfl, hq, hno⟩ := hrel
    by_cases hlt : q < n
    · have hql : q < l.length := by rw [HL.out]; exact hlt
      obtain ⟨bs, off, rfl, hc⟩ := HH.out.2.2 (by omega)
      have c0 := hc q hlt
      have hmm := HM.out _ (List.getElem_mem hql)
      rw [getD_of hql] at c0
      have HEK := Lib.hid (HE.out q hql)
      have HNK := Lib.hid (show (!f l[q].toNat) = false → ∀ j (hj : j < l.length), j < q + 1 → (!f l[j].toNat) = false from fun h j hj hj2 => by
        by_cases e : j = q
        · subst e; exact h
        · exact hno.out j hj (by omega))
      obtain ⟨x, hx⟩ : ∃ x : Nat, (x : Int) = l[q] := ⟨l[q].toNat, by omega⟩
      rw [← hx] at c0 hmm HEK HNK
      rw [Int.toNat_natCast] at HEK HNK
      have C := waits_any HBV.out x (by omega) hm
      obtain ⟨r, hr⟩ : ∃ r, r = !f x := ⟨_, rfl⟩
      rw [← hr] at C HEK HNK
      have HC := Lib.hid C
      clear hc hx C hr
      cases r with
      | true =>
        go_wp2_with fail
        refine Calls.mono HC.out ?_
        rintro e w2 ⟨rfl, rfl⟩
        go_wp2_with fail
        go_ret
        exact ⟨⟨(q : Int), rfl, by rw [HEK.out (by first | rfl | trivial)]; exact decide_eq_true (by omega)⟩, rfl⟩
      | false =>
        go_wp2_with fail
        refine Calls.mono HC.out ?_
        rintro e w2 ⟨rfl, rfl⟩
        go_wp2_with fail
        go_round
        case rel => exact ⟨q + 1, by go_num, by omega, HNK.out (by first | rfl | trivial)⟩
        case measure => simp [intOf]; omega
    · obtain rfl : n = q := by omega
      have hR := HX.out hno.out
      go_wp2_with fail
      go_ret
      exact ⟨⟨-1, rfl, by first | (rw [hR]; rfl) | decide | omega⟩, rfl⟩
set_option maxHeartbeats 400000 in
theorem containswaits_any {B : Nat} {W0 w : World} {g b m : Nat} {f : Nat → Bool} (hb : BV B W0 g b m f w) (A : Option Addr) (n c : Nat) (l : List Int) (h : Nums w A n l) (hl : ∀ x ∈ l, 0 ≤ x ∧ x < (m : Int)) (hn : n ≤ 9223372036854775807) (hm : m ≤ 9223372036854775807) :
    Calls Try.prog 63 #[.slice A n c, .func (.func 62) #[] #[.pointer (some ⟨b, 0, none⟩)]] w fun e w' => e = .returned (.bool (l.any (fun j => !f j.toNat))) ∧ w = w' := by
  have HI := Lib.hid (indexwaits_any hb A n c l h hl hn hm)
  obtain ⟨R, hR⟩ : ∃ R, R = l.any (fun j => !f j.toNat) := ⟨_, rfl⟩
  rw [← hR] at HI ⊢
  clear h hb hl hR
  go_enter Try.func63, Try.ntmps63
  go_wp2_with fail
  refine Calls.mono HI.out ?_
  rintro e w1 ⟨⟨z, rfl, hz⟩, rfl⟩
  have HZ := Lib.hid hz
  clear hz
  go_wp2_with fail
  go_ret
  exact ⟨by rw [← HZ.out]; exact rfl, rfl⟩
end Go.Proofs.Ytgdkgoiagjjccaa
