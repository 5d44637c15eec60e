/- What is kept of a write. -/
import Derived.Test.YthmebgpleegonaaDSure
namespace Go.Proofs.Ythmebgpleegonaa
set_option maxRecDepth 100000
open Go.RowKit

structure Kp where
  dev : Int
  n : Int
  tear : Int
def Kp.vals (k : Kp) : List Value := [.int .i64 k.dev, .int .i64 k.n, .int .i64 k.tear]
theorem Kp.vlen (k : Kp) : k.vals.length = 3 := rfl
abbrev Kps (w : World) (A : Option Addr) (l : List Kp) : Prop := RowAt Kp.vals 3 w A l.length l
def tornM (k : Kp) : Int := if 0 < k.tear ∧ k.tear < 64 then k.tear else 64
def isK (d n : Int) (k : Kp) : Bool := k.dev == d && k.n == n
def keptM (l : List Kp) (d n : Int) : Int := match l.find? (isK d n) with
  | none => 0
  | some k => tornM k
theorem keptM_nil (d n : Int) : keptM [] d n = 0 := rfl
theorem keptM_cons (k : Kp) (l : List Kp) (d n : Int) : keptM (k :: l) d n = if isK d n k then tornM k else keptM l d n := by
  unfold keptM
  rw [List.find?_cons]
  cases isK d n k <;> rfl
theorem keptM_le (l : List Kp) (d n : Int) : 0 ≤ keptM l d n ∧ keptM l d n ≤ 64 := by
  unfold keptM
  cases l.find? (isK d n) with
  | none => simp
  | some k =>
    simp only [tornM]
    split <;> omega
theorem Kps.cell {w : World} {A : Option Addr} {l : List Kp} (h : Kps w A l) (hn : 0 < l.length) : ∃ b off, A = some ⟨b, off, none⟩ ∧ ∀ q (hq : q < l.length), w.cell? ⟨b, off + q * 3, none⟩ = some (.int .i64 l[q].dev) ∧ w.cell? ⟨b, off + q * 3 + 1, none⟩ = some (.int .i64 l[q].n) ∧ w.cell? ⟨b, off + q * 3 + 2, none⟩ = some (.int .i64 l[q].tear) := by
  obtain ⟨b, off, e, hc⟩ := RowAt.cells h Kp.vlen hn
  exact ⟨b, off, e, fun q hq => ⟨hc q hq 0 _ (by omega) rfl, hc q hq 1 _ (by omega) rfl, hc q hq 2 _ (by omega) rfl⟩⟩
set_option maxHeartbeats 4000000 in
theorem kept_any (A : Option Addr) (c : Nat) (l : List Kp) (d i0 : Int) (w : World) (h : Kps w A l) (hl : l.length ≤ 1000000) :
    Calls Try.prog 38 #[.slice A l.length c, .int .i64 d, .int .i64 i0] w fun e w' => e = .returned (.int .i64 (keptM l d i0)) ∧ Below w.heap.size w w' := by
  obtain ⟨n, hn⟩ : ∃ n, n = l.length := ⟨_, rfl⟩
  have HN := Lib.hid hn
  have HH := Lib.hid h
  rw [← hn] at hl ⊢
  clear h hn
  go_enter Try.func38, Try.ntmps38
  go_wp2_with fail
  go_loopw [8, 11] (fun _ i wr => ∃ q : Nat, i = .int .i64 (q : Int) ∧ q ≤ n ∧ Hid (keptM (l.drop q) d i0 = keptM l d i0) ∧ Below w.heap.size w wr) (fun _ i _ => n - (intOf i).toNat)
  case atStart => exact ⟨0, rfl, by omega, Lib.hid rfl, Below.refl _ _⟩
  case round =>
    obtain ⟨q, rfl, hq, HK, hbr⟩ := hrel
    have HBR := Lib.hid hbr
    by_cases hlt : q < n
    · have hql : q < l.length := by rw [← HN.out]; exact hlt
      obtain ⟨b, off, rfl, hc⟩ := Kps.cell (RowAt.below HH.out hbr) (by omega)
      obtain ⟨c0, c1, c2⟩ := hc q hql
      have hk := HK.out
      rw [List.drop_eq_getElem_cons hql, keptM_cons] at hk
      obtain ⟨k, hkk⟩ : ∃ k, k = l[q] := ⟨_, rfl⟩
      rw [← hkk] at c0 c1 c2 hk
      have HUW := Lib.hid (HBR.out.trans (((Below.refl wr.heap.size wr).alloc (Nat.le_refl _) (.cells #[.int .i64 k.dev, .int .i64 k.n, .int .i64 k.tear] 68)).mono HBR.out.size))
      clear hc hkk hbr HK
      obtain ⟨r1, hr1⟩ : ∃ r, r = (k.dev != d) := ⟨_, rfl⟩
      obtain ⟨r2, hr2⟩ : ∃ r, r = (k.n != i0) := ⟨_, rfl⟩
      have hi : isK d i0 k = (!r1 && !r2) := by rw [hr1, hr2]; unfold isK; simp only [bne, Bool.not_not]
      rw [hi] at hk
      have g1 := hr1.symm
      have g2 := hr2.symm
      clear hr1 hr2 hi
      cases r1 with
      | true =>
        have HK := Lib.hid (show keptM (l.drop (q + 1)) d i0 = keptM l d i0 from hk)
        clear hk
        go_wp2_with fail
        go_roundw
        case rel => exact ⟨q + 1, by go_num, by omega, HK, HUW.out⟩
        case measure => simp [intOf]; omega
      | false =>
        cases r2 with
        | true =>
          have HK := Lib.hid (show keptM (l.drop (q + 1)) d i0 = keptM l d i0 from hk)
          clear hk
          go_wp2_with fail
          go_roundw
          case rel => exact ⟨q + 1, by go_num, by omega, HK, HUW.out⟩
          case measure => simp [intOf]; omega
        | false =>
          have hk2 : tornM k = keptM l d i0 := hk
          unfold tornM at hk2
          clear hk
          by_cases e3 : 0 < k.tear
          · have g3 : decide (0 < k.tear) = true := decide_eq_true e3
            by_cases e4 : k.tear < 64
            · have g4 : decide (k.tear < 64) = true := decide_eq_true e4
              rw [if_pos ⟨e3, e4⟩] at hk2
              have HK := Lib.hid hk2
              clear hk2 e3 e4
              go_wp2_with fail
              go_ret
              exact ⟨by rw [← HK.out]; rfl, HUW.out⟩
            · have g4 : decide (k.tear < 64) = false := decide_eq_false e4
              rw [if_neg (fun e => e4 e.2)] at hk2
              have HK := Lib.hid hk2
              clear hk2 e3 e4
              go_wp2_with fail
              go_ret
              exact ⟨by rw [← HK.out]; rfl, HUW.out⟩
          · have g3 : decide (0 < k.tear) = false := decide_eq_false e3
            rw [if_neg (fun e => e3 e.1)] at hk2
            have HK := Lib.hid hk2
            clear hk2 e3
            go_wp2_with fail
            go_ret
            exact ⟨by rw [← HK.out]; rfl, HUW.out⟩
    · obtain rfl : q = n := by omega
      have hk := HK.out
      rw [List.drop_eq_nil_of_le (by rw [← HN.out]; exact Nat.le_refl _), keptM_nil] at hk
      have HK2 := Lib.hid hk
      clear hk hbr HK
      go_wp2_with fail
      go_ret
      exact ⟨by rw [← HK2.out]; rfl, HBR.out⟩
end Go.Proofs.Ythmebgpleegonaa
