/- The contract of num.Over: bytes are written over. -/
import Derived.Test.YtlegaajacmjejaaRfN
namespace Go.Proofs.Ytlegaajacmjejaa
set_option maxRecDepth 100000
open Go.RowKit

theorem xor255 (b : Nat) (hb : b < 256) : bits BinOp.xor IntKind.u8 (b : Int) 255 = ((255 - b : Nat) : Int) := by
  have key : ∀ y : Fin 256, bits BinOp.xor IntKind.u8 (y.val : Int) 255 = ((255 - y.val : Nat) : Int) := by decide +kernel
  exact key ⟨b, hb⟩
/-- A block of bytes, none of them frozen, of which n from off on are known as bytes. -/
def Bt (w : World) (q off n : Nat) : Prop := ∃ cs, w.heap[q]? = some (.cells cs 5 (0, 0)) ∧ ∀ j, j < n → ∃ x : Nat, x < 256 ∧ cs[off + j]? = some (.int .u8 (x : Int))
theorem Bt.of {w : World} {A : Option Addr} {q off n : Nat} {bs : List Nat} (h : Rdv w A n 1 (valsB bs)) (hs : ∀ x ∈ bs, x < 256) (hA : A = some ⟨q, off, none⟩) {cs : Array Value} (hb : w.heap[q]? = some (.cells cs 5 (0, 0))) : Bt w q off n := by
  refine ⟨cs, hb, fun j hj => ?_⟩
  obtain ⟨b, o, e, hc⟩ := h.2 (by omega)
  rw [hA] at e
  injection e with e
  injection e with e1 e2
  subst e1 e2
  have hl : bs.length = n := by have := h.1; rw [valsB_length] at this; omega
  have hjl : j < bs.length := by omega
  refine ⟨bs[j], hs _ (List.getElem_mem hjl), ?_⟩
  have := hc j _ (show (valsB bs)[j]? = some (.int .u8 ((bs[j] : Nat) : Int)) by rw [valsB_get, List.getElem?_eq_getElem hjl]; rfl)
  rw [cell_of_row w q _ cs 5 (0, 0) hb] at this
  exact this

set_option maxHeartbeats 1000000 in
theorem over_any (A : Option Addr) (q off n c : Nat) (w : World) (hA : 0 < n → A = some ⟨q, off, none⟩ ∧ Bt w q off n) (hn : n ≤ 140737488355328) :
    Calls Try.prog 20 #[.slice A n c] w fun e w' => e = .returned (.tuple #[]) ∧ OnlyG w w' q := by
  rcases Nat.eq_zero_or_pos n with rfl | hp
  · clear hA
    go_enter Try.func20, Try.ntmps20
    go_wp2_with fail
    refine wp_loop_rounds 1 ?_
    rw [rounds_succ]
    go_wp2_with fail
    exact bodyPost_end (v := .tuple #[]) (by simp [results, Try.results20, go_sem]) rfl ⟨rfl, Only.refl _ _⟩
  · obtain ⟨rfl, hb⟩ := hA hp
    have HB := Lib.hid hb
    clear hA hb
    go_enter Try.func20, Try.ntmps20
    go_wp2_with fail
    go_loopw [5] (fun i wr => ∃ k : Nat, i = .int .i64 (k : Int) ∧ k ≤ n ∧ Bt wr q off n ∧ OnlyG w wr q) (fun i _ => n - (intOf i).toNat)
    case atStart => exact ⟨0, rfl, by omega, HB.out, Only.refl _ _⟩
    case round =>
      obtain ⟨k, rfl, hk, hbt, ho⟩ := hrel
      have HO := Lib.hid ho
      clear ho
      by_cases hlt : k < n
      · obtain ⟨cs, hcs, hx⟩ := hbt
        obtain ⟨x, hx256, hxk⟩ := hx k hlt
        have c0 : wr.cell? ⟨q, off + k, none⟩ = some (.int .u8 (x : Int)) := by rw [cell_of_row wr q _ cs 5 (0, 0) hcs]; exact hxk
        have f0 : wr.frozen? ⟨q, off + k, none⟩ = false := by simp [World.frozen?, hcs]
        have e1 := xor255 x hx256
        have hlc : off + k < cs.size := by
          rcases Nat.lt_or_ge (off + k) cs.size with h | h
          · exact h
          · rw [Array.getElem?_eq_none h] at hxk; cases hxk
        have hbt' : Bt (wr.setCell ⟨q, off + k, none⟩ (.int .u8 ((255 - x : Nat) : Int))) q off n := by
          refine ⟨cs.setIfInBounds (off + k) (.int .u8 ((255 - x : Nat) : Int)), by simp [World.setCell, Array.getElem?_modify, hcs], fun j hj => ?_⟩
          rw [Array.getElem?_setIfInBounds]
          by_cases hjk : off + k = off + j
          · rw [if_pos hjk, if_pos hlc]
            exact ⟨255 - x, by omega, rfl⟩
          · rw [if_neg hjk]
            exact hx j hj
        have HB' := Lib.hid hbt'
        obtain ⟨y, hy⟩ : ∃ y, y = 255 - x := ⟨_, rfl⟩
        rw [← hy] at e1 HB'
        clear hbt' hx hcs hxk hy
        go_wp2_with fail
        go_roundw
        case rel => exact ⟨k + 1, by go_num, by omega, HB'.out, HO.out.trans ⟨rfl, rfl, rfl, by rw [World.size_setCell]; exact Nat.le_refl _, fun j _ hv => Deep.blk_setCell_other wr ⟨q, off + k, none⟩ _ j (fun he => hv (by rw [he]))⟩⟩
        case measure => simp [intOf]; omega
      · clear hbt
        go_wp2_with fail
        exact bodyPost_end (v := .tuple #[]) (by simp [results, Try.results20, go_sem]) rfl ⟨rfl, HO.out⟩
end Go.Proofs.Ytlegaajacmjejaa
