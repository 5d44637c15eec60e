/- The contracts of the document's reader's Num and Bytes. -/
import Derived.Test.YtkeckjgihjpfbaaDoorRfC
namespace Go.Proofs.YtkeckjgihjpfbaaDoor
set_option maxRecDepth 100000
open Go.RowKit

theorem Rdv.set {w : World} {A : Option Addr} {n size : Nat} {ys : List Value} (h : Rdv w A n size ys) (p : Addr) (u : Value) (hne : ∀ ad, A = some ad → ad.block ≠ p.block) : Rdv (w.setCell p u) A n size ys :=
  ⟨h.1, fun hn => by
    obtain ⟨b, off, e, hc⟩ := h.2 hn
    exact ⟨b, off, e, fun j v hj => (World.cell?_of_block (Deep.blk_setCell_other w p u b (hne _ e))).trans (hc j v hj)⟩⟩
set_option maxHeartbeats 400000 in
theorem mnum_any (B g : Nat) (bs : List Nat) (bad : Bool) (w : World) (h : Rfx w B g bs bad) :
    Calls Tryd.prog 52 #[.pointer (some ⟨g, 0, none⟩)] w fun e w' => e = .returned (.int .i64 (unfoldN (rcount bs).1)) ∧ Rfx w' B g (rcount bs).2.1 (rcount bs).2.2 ∧ OnlyG w w' g := by
  have HC := Lib.hid (mcount_any B g bs bad w h)
  have hlt := rcount_lt bs h.small
  obtain ⟨n, hn⟩ : ∃ n, n = (rcount bs).1 := ⟨_, rfl⟩
  rw [← hn] at HC hlt ⊢
  have hu : unfoldN n = if n % 2 = 1 then -((n / 2 : Nat) : Int) - 1 else ((n / 2 : Nat) : Int) := rfl
  obtain ⟨U, hU⟩ : ∃ U, U = unfoldN n := ⟨_, rfl⟩
  rw [← hU] at hu ⊢
  clear h hn hU
  by_cases h1 : n % 2 = 1
  · rw [if_pos h1] at hu
    have HU := Lib.hid hu
    have h1' : (n : Int) % 2 = 1 := by omega
    clear hu h1
    go_enter Tryd.func52, Tryd.ntmps52
    go_wp2_with fail
    refine Calls.mono HC.out ?_
    rintro e w1 ⟨rfl, h2, h3⟩
    have H2 := Lib.hid h2
    have H3 := Lib.hid h3
    clear h2 h3
    go_wp2_with fail
    go_ret
    exact ⟨by rw [HU.out]; go_num, H2.out, H3.out⟩
  · rw [if_neg h1] at hu
    have HU := Lib.hid hu
    have h1' : (n : Int) % 2 = 0 := by omega
    clear hu h1
    go_enter Tryd.func52, Tryd.ntmps52
    go_wp2_with fail
    refine Calls.mono HC.out ?_
    rintro e w1 ⟨rfl, h2, h3⟩
    have H2 := Lib.hid h2
    have H3 := Lib.hid h3
    clear h2 h3
    go_wp2_with fail
    go_ret
    exact ⟨by rw [HU.out]; go_num, H2.out, H3.out⟩
end Go.Proofs.YtkeckjgihjpfbaaDoor
