/- The contracts of the document's reader's Num and Bytes. -/
import Derived.Test.YtlegaajacmjejaaRfC
namespace Go.Proofs.Ytlegaajacmjejaa
set_option maxRecDepth 100000
open Go.RowKit

theorem Rdv.set {w : World} {A : Option Addr} {n size : Nat} {ys : List Value} (h : Rdv w A n size ys) (p : Addr) (u : Value) (hne : ∀ ad, A = some ad → ad.block ≠ p.block) : Rdv (w.setCell p u) A n size ys :=
  ⟨h.1, fun hn => by
    obtain ⟨b, off, e, hc⟩ := h.2 hn
    exact ⟨b, off, e, fun j v hj => (World.cell?_of_block (Deep.blk_setCell_other w p u b (hne _ e))).trans (hc j v hj)⟩⟩
set_option maxHeartbeats 400000 in
theorem mnum_any (B g : Nat) (bs : List Nat) (bad : Bool) (w : World) (h : Rfx w B g bs bad) :
    Calls Try.prog 60 #[.pointer (some ⟨g, 0, none⟩)] w fun e w' => e = .returned (.int .i64 (unfoldN (rcount bs).1)) ∧ Rfx w' B g (rcount bs).2.1 (rcount bs).2.2 ∧ OnlyG w w' g := by
  have HC := Lib.hid (mcount_any B g bs bad w h)
  have hlt := rcount_lt bs h.small
  obtain ⟨n, hn⟩ : ∃ n, n = (rcount bs).1 := ⟨_, rfl⟩
  rw [← hn] at HC hlt ⊢
  have hu : unfoldN n = if n % 2 = 1 then -((n / 2 : Nat) : Int) - 1 else ((n / 2 : Nat) : Int) := rfl
  obtain ⟨U, hU⟩ : ∃ U, U = unfoldN n := ⟨_, rfl⟩
  rw [← hU] at hu ⊢
  clear h hn hU
  by_cases h1 : n % 2 = 1
  · rw [if_pos h1] at hu
    have HU := Lib.hid hu
    have h1' : (n : Int) % 2 = 1 := by omega
    clear hu h1
    go_enter Try.func60, Try.ntmps60
    go_wp2_with fail
    refine Calls.mono HC.out ?_
    rintro e w1 ⟨rfl, h2, h3⟩
    have H2 := Lib.hid h2
    have H3 := Lib.hid h3
    clear h2 h3
    go_wp2_with fail
    go_ret
    exact ⟨by rw [HU.out]; go_num, H2.out, H3.out⟩
  · rw [if_neg h1] at hu
    have HU := Lib.hid hu
    have h1' : (n : Int) % 2 = 0 := by omega
    clear hu h1
    go_enter Try.func60, Try.ntmps60
    go_wp2_with fail
    refine Calls.mono HC.out ?_
    rintro e w1 ⟨rfl, h2, h3⟩
    have H2 := Lib.hid h2
    have H3 := Lib.hid h3
    clear h2 h3
    go_wp2_with fail
    go_ret
    exact ⟨by rw [HU.out]; go_num, H2.out, H3.out⟩
set_option maxHeartbeats 1000000 in
theorem mbytes_any (B g : Nat) (bs : List Nat) (bad : Bool) (w : World) (h : Rfx w B g bs bad) :
    Calls Try.prog 64 #[.pointer (some ⟨g, 0, none⟩)] w fun e w' => ∃ v, e = .returned v ∧ ∃ A c, v = .slice A (bytesOut bs).length c ∧ Rdv w' A (bytesOut bs).length 1 (valsB (bytesOut bs)) ∧ Rfx w' B g (bytesRest bs) (bytesBad bs) ∧ OnlyG w w' g := by
  have HC := Lib.hid (mcount_any B g bs bad w h)
  have hlt := rcount_lt bs h.small
  unfold bytesOut bytesRest bytesBad
  obtain ⟨R, hR⟩ : ∃ R, R = rcount bs := ⟨_, rfl⟩
  rw [← hR] at HC hlt ⊢
  obtain ⟨m, cs, bad1⟩ := R
  have HF := Lib.hid (fun w (h : Rfx w B g cs bad1) => mfail_any B g cs bad1 w h)
  have hlt' : m < 18446744073709551616 := hlt
  show Calls Try.prog 64 #[.pointer (some ⟨g, 0, none⟩)] w fun e w' => ∃ v, e = .returned v ∧ ∃ A c, v = .slice A (outT cs bad1 m).length c ∧ Rdv w' A (outT cs bad1 m).length 1 (valsB (outT cs bad1 m)) ∧ Rfx w' B g (restT cs bad1 m) (failT cs bad1 m) ∧ OnlyG w w' g
  clear h hR hlt
  by_cases hf : failT cs bad1 m = true
  · have ho : outT cs bad1 m = [] := by simp [outT, hf]
    have hr : restT cs bad1 m = [] := by simp [restT, hf]
    rw [ho, hr, hf]
    have hf2 : bad1 = true ∨ cs.length < m := by simpa [failT] using hf
    have HF2 := Lib.hid hf2
    clear ho hr hf hf2
    go_enter Try.func64, Try.ntmps64
    go_wp2_with fail
    refine Calls.mono HC.out ?_
    rintro e w1 ⟨rfl, h1, h2⟩
    have H2 := Lib.hid h2
    have HFF := Lib.hid (HF.out w1 h1)
    obtain ⟨A, n, c, h3⟩ := h1
    have c0 := h3.c0
    have c1 := h3.c1
    have hl := h3.blen
    have hlen := h3.len
    have hff := HF2.out
    rw [hl] at hff
    clear h2 h3 hl
    have e1 : IntKind.u64.wrap (n : Int) = ((n : Nat) : Int) := by rw [IntKind.wrap_u64]; omega
    cases bad1 with
    | true =>
      go_wp2_with fail
      refine Calls.mono HFF.out ?_
      rintro e w2 ⟨rfl, h4, h5⟩
      have H4 := Lib.hid h4
      have H5 := Lib.hid h5
      clear h4 h5
      go_wp2_with fail
      go_ret
      exact ⟨_, rfl, none, 0, rfl, ⟨rfl, fun h => absurd h (by simp)⟩, H4.out, H2.out.trans H5.out⟩
    | false =>
      have hlt2 : n < m := by rcases hff with h | h; (cases h); exact h
      clear hff
      go_wp2_with fail
      refine Calls.mono HFF.out ?_
      rintro e w2 ⟨rfl, h4, h5⟩
      have H4 := Lib.hid h4
      have H5 := Lib.hid h5
      clear h4 h5
      go_wp2_with fail
      go_ret
      exact ⟨_, rfl, none, 0, rfl, ⟨rfl, fun h => absurd h (by simp)⟩, H4.out, H2.out.trans H5.out⟩
  · obtain rfl : bad1 = false := by cases bad1 with | false => rfl | true => simp [failT] at hf
    have hle : m ≤ cs.length := by simpa [failT] using hf
    have hff : failT cs false m = false := by simpa using hf
    rw [show outT cs false m = cs.take m by simp [outT, hff], show restT cs false m = cs.drop m by simp [restT, hff], hff, show (cs.take m).length = m by rw [List.length_take]; omega]
    have HLE := Lib.hid hle
    clear hf hff hle HF
    go_enter Try.func64, Try.ntmps64
    go_wp2_with fail
    refine Calls.mono HC.out ?_
    rintro e w1 ⟨rfl, h1, h2⟩
    have H2 := Lib.hid h2
    obtain ⟨A, n, c, h3⟩ := h1
    have c0 := h3.c0
    have c1 := h3.c1
    have hl := h3.blen
    have hlen := h3.len
    have hmn : m ≤ n := by have := HLE.out; omega
    have e1 : IntKind.u64.wrap (n : Int) = ((n : Nat) : Int) := by rw [IntKind.wrap_u64]; omega
    have H3 := Lib.hid h3
    have hlies := h3.lies
    clear h2 h3 hl
    have hal : Below w1.heap.size w1 (w1.alloc (.cells #[] 5)) := (Below.refl _ w1).alloc (Nat.le_refl _) _
    have HAL := Lib.hid hal
    have H3a := Lib.hid (H3.out.below hal)
    have k0a := H3a.out.c0
    clear hal
    rcases hlies with ⟨rfl, rfl, rfl⟩ | ⟨b, off, rfl, hbB, hnc⟩
    · obtain rfl : m = 0 := by omega
      obtain rfl : cs = [] := List.eq_nil_of_length_eq_zero H3.out.blen
      go_wp2_with (at_builtin; refine wpList_append_empty elem26 rfl (.tmp 23) (.tmp 29) rfl ⟨w1.heap.size, 0, none⟩ rfl none 0 0 [] rfl ⟨rfl, fun h => absurd h (by omega)⟩ (fun _ => rfl) (by unfold maxLen; omega) (by omega) ?_; intro A' c' w' h1 h2 h3 h4; have H4 := Lib.hid h4; have hh := H3a.out.below h4; have k0 := hh.c0; have k1 := hh.f 0; have HH := Lib.hid hh; have HR := Lib.hid h1; clear h1 h2 h3 h4 hh)
      have hr' : Rfx (w'.setCell ⟨g, 0, none⟩ (.slice none 0 0)) B g [] false := by
        have hb := HH.out.block
        refine ⟨none, 0, 0, HH.out.low, ?_, ⟨rfl, fun h => absurd h (by omega)⟩, .inl ⟨rfl, rfl, rfl⟩, (fun h => by cases h), (fun x hx => by cases hx), by omega⟩
        simp [World.setCell, Array.getElem?_modify, hb]
      have HRR := Lib.hid hr'
      clear hr'
      go_wp2_with fail
      go_ret
      refine ⟨_, rfl, A', c', rfl, ⟨HR.out.1, fun h => absurd h (by omega)⟩, HRR.out, (H2.out.trans ?_).trans (Only.set _ _ _ _)⟩
      exact Only.of_below (HAL.out.trans (H4.out.mono HAL.out.size))
    · have hrow : Rdv (w1.alloc (.cells #[] 5)) (some ⟨b, off, none⟩) m 1 (valsB (cs.take m)) := by
        refine ⟨by rw [valsB_length, List.length_take]; have := HLE.out; omega, fun hm0 => ?_⟩
        have hl := H3a.out.blen
        obtain ⟨b', off', e, _, hc⟩ := H3a.out.cellAt (by omega)
        injection e with e
        injection e with e1 e2
        subst e1 e2
        refine ⟨_, _, rfl, fun j u hj => ?_⟩
        rw [valsB_get, List.getElem?_take] at hj
        by_cases hjm : j < m
        · rw [if_pos hjm, List.getElem?_eq_getElem (show j < cs.length by omega)] at hj
          injection hj with hj
          rw [← hj]
          exact hc j (by omega)
        · rw [if_neg hjm] at hj; cases hj
      have HROW := Lib.hid hrow
      have Q4 := Lib.hid (addr_plus b off m)
      clear hrow
      go_wp2_with (at_builtin; refine wpList_append_empty elem26 rfl (.tmp 23) (.tmp 29) rfl ⟨w1.heap.size, 0, none⟩ rfl (some ⟨b, off, none⟩) m c (valsB (cs.take m)) rfl HROW.out (fun h => by cases h) (by unfold maxLen; omega) (by omega) ?_; intro A' c' w' h1 h2 h3 h4; have H4 := Lib.hid h4; have hh := H3a.out.below h4; have k0 := hh.c0; have k1 := hh.f 0; have HH := Lib.hid hh; have HR := Lib.hid h1; have HA2 := Lib.hid (show ∀ ad, A' = some ad → ad.block ≠ g by (intro ad had; have hlt := H3.out.lt; rcases h2 with ⟨h2, _⟩ | ⟨h2, _⟩ <;> (rw [h2] at had; cases had; simp at *; omega))); clear h1 h2 h3 h4 hh; have q4 := Q4.out)
      all_goals clear Q4 q4
      case inl =>
        have hr' := HH.out.cut m hmn off 0 (.inr (by omega)) (by omega)
        have HRR := Lib.hid hr'
        clear hr'
        go_ret
        exact ⟨_, rfl, A', ⟨c', rfl⟩, HR.out.set _ _ HA2.out, ⟨_, _, _, HRR.out⟩, (H2.out.trans (Only.of_below (HAL.out.trans (H4.out.mono HAL.out.size)))).trans (Only.set _ _ _ _)⟩
      case inr =>
        have hr' := HH.out.cut m hmn (off + m) (c - m) (.inl rfl) (by omega)
        have HRR := Lib.hid hr'
        clear hr'
        go_ret
        exact ⟨_, rfl, A', ⟨c', rfl⟩, HR.out.set _ _ HA2.out, ⟨_, _, _, HRR.out⟩, (H2.out.trans (Only.of_below (HAL.out.trans (H4.out.mono HAL.out.size)))).trans (Only.set _ _ _ _)⟩
end Go.Proofs.Ytlegaajacmjejaa
