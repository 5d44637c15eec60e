/- What is played, and whether it is more than is played. -/
import Derived.Test.YthmebgpleegonaaDAlive
namespace Go.Proofs.Ythmebgpleegonaa
set_option maxRecDepth 100000
open Go.RowKit

/-- An act, as it lies. -/
structure Opx where
  kind : Int
  dev : Int
  n : Int
  b : Nat
  A : Option Addr
  m : Nat
  c : Nat
def Opx.vals (o : Opx) : List Value := [.int .i64 o.kind, .int .i64 o.dev, .int .i64 o.n, .int .u8 (o.b : Int), .slice o.A o.m o.c]
theorem Opx.vlen (o : Opx) : o.vals.length = 5 := rfl
abbrev Ops (w : World) (A : Option Addr) (l : List Opx) : Prop := RowAt Opx.vals 5 w A l.length l
theorem Ops.cell {w : World} {A : Option Addr} {l : List Opx} (h : Ops w A l) (hn : 0 < l.length) : ∃ b off, A = some ⟨b, off, none⟩ ∧ ∀ q (hq : q < l.length), w.cell? ⟨b, off + q * 5, none⟩ = some (.int .i64 l[q].kind) ∧ w.cell? ⟨b, off + q * 5 + 1, none⟩ = some (.int .i64 l[q].dev) ∧ w.cell? ⟨b, off + q * 5 + 2, none⟩ = some (.int .i64 l[q].n) ∧ w.cell? ⟨b, off + q * 5 + 3, none⟩ = some (.int .u8 (l[q].b : Int)) ∧ w.cell? ⟨b, off + q * 5 + 4, none⟩ = some (.slice l[q].A l[q].m l[q].c) := by
  obtain ⟨b, off, e, hc⟩ := RowAt.cells h Opx.vlen hn
  exact ⟨b, off, e, fun q hq => ⟨hc q hq 0 _ (by omega) rfl, hc q hq 1 _ (by omega) rfl, hc q hq 2 _ (by omega) rfl, hc q hq 3 _ (by omega) rfl, hc q hq 4 _ (by omega) rfl⟩⟩
def Opx.arr (o : Opx) : Array Value := #[.int .i64 o.kind, .int .i64 o.dev, .int .i64 o.n, .int .u8 (o.b : Int), .slice o.A o.m o.c]
/-- Neither many acts nor much kept. -/
def Short (l : List Opx) : Prop := l.length ≤ 81 ∧ ∀ o ∈ l, o.m ≤ 60
set_option maxHeartbeats 4000000 in
theorem long_any (A : Option Addr) (c : Nat) (l : List Opx) (w : World) (h : Ops w A l) (hl : l.length ≤ 9223372036854775807) :
    Calls Try.prog 9 #[.slice A l.length c] w fun e w' => ∃ r, e = .returned (.bool r) ∧ (r = false → Short l) ∧ Below w.heap.size w w' := by
  obtain ⟨n, hn⟩ : ∃ n, n = l.length := ⟨_, rfl⟩
  have HN := Lib.hid hn
  have HH := Lib.hid h
  rw [← hn] at hl ⊢
  clear h hn
  go_enter Try.func9, Try.ntmps9
  go_wp2_with fail
  go_loopw [3, 4, 7] (fun _ _ i wr => ∃ q : Nat, i = .int .i64 (q : Int) ∧ q ≤ n ∧ q ≤ 81 ∧ Hid (∀ i (hi : i < l.length), i < q → l[i].m ≤ 60) ∧ Below w.heap.size w wr) (fun _ _ i _ => n - (intOf i).toNat)
  case atStart => exact ⟨0, rfl, by omega, by omega, Lib.hid (fun i _ h => absurd h (Nat.not_lt_zero _)), Below.refl _ _⟩
  case round =>
    obtain ⟨q, rfl, hq, hq81, hk, hbr⟩ := hrel
    have HBR := Lib.hid hbr
    have HK := Lib.hid hk
    by_cases hlt : q < n
    · have hql : q < l.length := by rw [← HN.out]; exact hlt
      obtain ⟨b, off, rfl, hc⟩ := Ops.cell (RowAt.below HH.out hbr) (by omega)
      obtain ⟨c0, c1, c2, c3, c4⟩ := hc q hql
      obtain ⟨o, ho⟩ : ∃ o, o = l[q] := ⟨_, rfl⟩
      have HO := Lib.hid ho
      rw [← ho] at c0 c1 c2 c3 c4
      have HUW := Lib.hid (HBR.out.trans (((Below.refl wr.heap.size wr).alloc (Nat.le_refl _) (.cells o.arr 40)).mono HBR.out.size))
      unfold Opx.arr at HUW
      clear hc ho hbr hk
      by_cases h81 : 80 < q
      · have g1 : decide (80 < (q : Int)) = true := by rw [decide_eq_true_iff]; omega
        go_wp2_with fail
        go_ret
        exact ⟨true, rfl, (fun h => by cases h), HUW.out⟩
      · have g1 : decide (80 < (q : Int)) = false := by rw [decide_eq_false_iff_not]; omega
        by_cases h60 : 60 < o.m
        · have g2 : decide (60 < (o.m : Int)) = true := by rw [decide_eq_true_iff]; omega
          go_wp2_with fail
          go_ret
          exact ⟨true, rfl, (fun h => by cases h), HUW.out⟩
        · have g2 : decide (60 < (o.m : Int)) = false := by rw [decide_eq_false_iff_not]; omega
          go_wp2_with fail
          go_roundw
          case rel =>
            refine ⟨q + 1, by go_num, by omega, by omega, Lib.hid (fun i hi h => ?_), HUW.out⟩
            by_cases e : i = q
            · subst e
              rw [← HO.out]
              omega
            · exact HK.out.out i hi (by omega)
          case measure => simp [intOf]; omega
    · obtain rfl : q = n := by omega
      clear hbr hk
      go_wp2_with fail
      go_ret
      refine ⟨false, rfl, fun _ => ⟨by rw [← HN.out]; exact hq81, fun o ho => ?_⟩, HBR.out⟩
      obtain ⟨i, hi, rfl⟩ := List.getElem_of_mem ho
      exact HK.out.out i hi (by rw [HN.out]; exact hi)
end Go.Proofs.Ythmebgpleegonaa
