/- The contract of num.Over: bytes are written over. -/
import Derived.Test.YtkeckjgihjpfbaaDoorRfC
namespace Go.Proofs.YtkeckjgihjpfbaaDoor
set_option maxRecDepth 100000
open Go.RowKit

theorem xor255 (b : Nat) (hb : b < 256) : bits BinOp.xor IntKind.u8 (b : Int) 255 = ((255 - b : Nat) : Int) := by
  have key : ∀ y : Fin 256, bits BinOp.xor IntKind.u8 (y.val : Int) 255 = ((255 - y.val : Nat) : Int) := by decide +kernel
  exact key ⟨b, hb⟩
/-- A block of bytes, none of them frozen, of which n from off on are known as bytes. -/
def Bt (w : World) (q off n : Nat) : Prop := ∃ cs, w.heap[q]? = some (.cells cs 5 (0, 0)) ∧ ∀ j, j < n → ∃ x : Nat, x < 256 ∧ cs[off + j]? = some (.int .u8 (x : Int))
theorem Bt.of {w : World} {A : Option Addr} {q off n : Nat} {bs : List Nat} (h : Rdv w A n 1 (valsB bs)) (hs : ∀ x ∈ bs, x < 256) (hA : A = some ⟨q, off, none⟩) {cs : Array Value} (hb : w.heap[q]? = some (.cells cs 5 (0, 0))) : Bt w q off n := by
  refine ⟨cs, hb, fun j hj => ?_⟩
  obtain ⟨b, o, e, hc⟩ := h.2 (by omega)
  rw [hA] at e
  injection e with e
  injection e with e1 e2
  subst e1 e2
  have hl : bs.length = n := by have := h.1; rw [valsB_length] at this; omega
  have hjl : j < bs.length := by omega
  refine ⟨bs[j], hs _ (List.getElem_mem hjl), ?_⟩
  have := hc j _ (show (valsB bs)[j]? = some (.int .u8 ((bs[j] : Nat) : Int)) by rw [valsB_get, List.getElem?_eq_getElem hjl]; rfl)
  rw [cell_of_row w q _ cs 5 (0, 0) hb] at this
  exact this

end Go.Proofs.YtkeckjgihjpfbaaDoor
