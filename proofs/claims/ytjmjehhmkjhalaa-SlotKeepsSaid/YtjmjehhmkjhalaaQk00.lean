/- XDRow, XDStep, XDKept: put together. -/
import Derived.Test.YtjmjehhmkjhalaaChecked
import Derived.WalkKit
import Derived.WalkLawsBesides
import Derived.WalkSpells
import Derived.Lib.Hide
import Derived.Outline
import Derived.Laws.Externs
import Derived.Maps.AppendAt
import Derived.Laws.AppendOwnNone
import Derived.Laws.OwnMore
import Derived.Laws.AppendOwn
import Derived.OwnWalk
import Derived.Deep.RegionLaw
import Derived.Lib.SmallJoins
import Derived.Test.YtjmjehhmkjhalaaQb00
import Derived.Test.YtjmjehhmkjhalaaQb10
import Derived.Test.YtjmjehhmkjhalaaQb17
/- DRow: further theorems. -/
namespace Go.Proofs.Ytjmjehhmkjhalaa
set_option maxRecDepth 100000
open Go.RowKit

theorem own_empty (w : World) (B e size : Nat) (t : TypeId) (ht : t = e) (hB : B ≤ w.heap.size) : (w.alloc (.cells #[] t)).ownsRow B e size (.slice (some ⟨w.heap.size, 0, none⟩) 0 0) 0 [] := by
  subst ht
  exact ⟨by simp, .inr ⟨w.heap.size, 0, #[], rfl, hB, heap_alloc_new w _, Nat.le_refl _, by decide, by simp, by simp⟩⟩
end Go.Proofs.Ytjmjehhmkjhalaa

/- DStep: further theorems. -/
namespace Go.Proofs.Ytjmjehhmkjhalaa
set_option maxRecDepth 100000
open Go.RowKit

section
variable {w w' : World} {F : Nat → Prop} {g : Nat} {p p' : Pw} {v : Value} {L : List DM} {d : DM}
end
section
variable {w : World} {F : Nat → Prop} {g : Nat} {p : Pw} {v : Value} {L : List DM}
set_option maxHeartbeats 400000 in
theorem down_any (h : SetM w F g p v L) : Calls Try.prog 64 #[.pointer (some ⟨g, 0, none⟩)] w fun e w' => e = .returned (.bool p.gone) ∧ w = w' := by
  obtain ⟨_, _, _, c3, _⟩ := h.c
  obtain ⟨gn, hg⟩ : ∃ gn, gn = p.gone := ⟨_, rfl⟩
  rw [← hg] at c3 ⊢
  clear h hg
  go_enter Try.func64, Try.ntmps64
  go_wp2_with fail
  go_ret
  exact ⟨rfl, rfl⟩
set_option maxHeartbeats 400000 in
theorem arm_any (h : SetM w F g p v L) (n : Nat) (_ : n ≤ 9223372036854775807) : Calls Try.prog 31 #[.pointer (some ⟨g, 0, none⟩), .int .i64 (n : Int)] w fun e w' => e = .returned .nilIface ∧ SetM w' F g { p with armed := n, ia := true } v L ∧ Chg w w' F F := by
  obtain ⟨_, c1, c2, _, _⟩ := h.c
  have f1 := h.fr 1
  have f2 := h.fr 2
  obtain ⟨st, ar, ia, gn⟩ := p
  have h1 := h.pset (p' := ⟨st, n, ia, gn⟩) 1 (.int .i64 (n : Int)) rfl
  have h2 := h1.1.pset (p' := ⟨st, n, true, gn⟩) 2 (.bool true) rfl
  have H2 := Lib.hid (show SetM _ F g ⟨st, n, true, gn⟩ v L ∧ Chg w _ F F from ⟨h2.1, h1.2.trans h2.2⟩)
  clear h h1 h2
  go_enter Try.func31, Try.ntmps31
  go_wp2_with fail
  go_ret
  exact ⟨rfl, H2.out.1, H2.out.2⟩
end
end Go.Proofs.Ytjmjehhmkjhalaa

/- DKept: further theorems. -/
namespace Go.Proofs.Ytjmjehhmkjhalaa
set_option maxRecDepth 100000
open Go.RowKit

theorem keptM_nil (d n : Int) : keptM [] d n = 0 := rfl
theorem keptM_cons (k : Kp) (l : List Kp) (d n : Int) : keptM (k :: l) d n = if isK d n k then tornM k else keptM l d n := by
  unfold keptM
  rw [List.find?_cons]
  cases isK d n k <;> rfl
theorem keptM_le (l : List Kp) (d n : Int) : 0 ≤ keptM l d n ∧ keptM l d n ≤ 64 := by
  unfold keptM
  cases l.find? (isK d n) with
  | none => simp
  | some k =>
    simp only [tornM]
    split <;> omega
set_option maxHeartbeats 4000000 in
theorem kept_any (A : Option Addr) (c : Nat) (l : List Kp) (d i0 : Int) (w : World) (h : Kps w A l) (hl : l.length ≤ 1000000) :
    Calls Try.prog 107 #[.slice A l.length c, .int .i64 d, .int .i64 i0] w fun e w' => e = .returned (.int .i64 (keptM l d i0)) ∧ Below w.heap.size w w' := by
  obtain ⟨n, hn⟩ : ∃ n, n = l.length := ⟨_, rfl⟩
  have HN := Lib.hid hn
  have HH := Lib.hid h
  rw [← hn] at hl ⊢
  clear h hn
  go_enter Try.func107, Try.ntmps107
  go_wp2_with fail
  go_loopw [8, 11] (fun _ i wr => ∃ q : Nat, i = .int .i64 (q : Int) ∧ q ≤ n ∧ Hid (keptM (l.drop q) d i0 = keptM l d i0) ∧ Below w.heap.size w wr) (fun _ i _ => n - (intOf i).toNat)
  case atStart => exact ⟨0, rfl, by omega, Lib.hid rfl, Below.refl _ _⟩
  case round =>
    obtain ⟨q, rfl, hq, HK, hbr⟩ := hrel
    have HBR := Lib.hid hbr
    by_cases hlt : q < n
    · have hql : q < l.length := by rw [← HN.out]; exact hlt
      obtain ⟨b, off, rfl, hc⟩ := Kps.cell (RowAt.below HH.out hbr) (by omega)
      obtain ⟨c0, c1, c2⟩ := hc q hql
      have hk := HK.out
      rw [List.drop_eq_getElem_cons hql, keptM_cons] at hk
      obtain ⟨k, hkk⟩ : ∃ k, k = l[q] := ⟨_, rfl⟩
      rw [← hkk] at c0 c1 c2 hk
      have HUW := Lib.hid (HBR.out.trans (((Below.refl wr.heap.size wr).alloc (Nat.le_refl _) (.cells #[.int .i64 k.dev, .int .i64 k.n, .int .i64 k.tear] 201)).mono HBR.out.size))
      clear hc hkk hbr HK
      obtain ⟨r1, hr1⟩ : ∃ r, r = (k.dev != d) := ⟨_, rfl⟩
      obtain ⟨r2, hr2⟩ : ∃ r, r = (k.n != i0) := ⟨_, rfl⟩
      have hi : isK d i0 k = (!r1 && !r2) := by rw [hr1, hr2]; unfold isK; simp only [bne, Bool.not_not]
      rw [hi] at hk
      have g1 := hr1.symm
      have g2 := hr2.symm
      clear hr1 hr2 hi
      cases r1 with
      | true =>
        have HK := Lib.hid (show keptM (l.drop (q + 1)) d i0 = keptM l d i0 from hk)
        clear hk
        go_wp2_with fail
        go_roundw
        case rel => exact ⟨q + 1, by go_num, by omega, HK, HUW.out⟩
        case measure => simp [intOf]; omega
      | false =>
        cases r2 with
        | true =>
          have HK := Lib.hid (show keptM (l.drop (q + 1)) d i0 = keptM l d i0 from hk)
          clear hk
          go_wp2_with fail
          go_roundw
          case rel => exact ⟨q + 1, by go_num, by omega, HK, HUW.out⟩
          case measure => simp [intOf]; omega
        | false =>
          have hk2 : tornM k = keptM l d i0 := hk
          unfold tornM at hk2
          clear hk
          by_cases e3 : 0 < k.tear
          · have g3 : decide (0 < k.tear) = true := decide_eq_true e3
            by_cases e4 : k.tear < 64
            · have g4 : decide (k.tear < 64) = true := decide_eq_true e4
              rw [if_pos ⟨e3, e4⟩] at hk2
              have HK := Lib.hid hk2
              clear hk2 e3 e4
              go_wp2_with fail
              go_ret
              exact ⟨by rw [← HK.out]; rfl, HUW.out⟩
            · have g4 : decide (k.tear < 64) = false := decide_eq_false e4
              rw [if_neg (fun e => e4 e.2)] at hk2
              have HK := Lib.hid hk2
              clear hk2 e3 e4
              go_wp2_with fail
              go_ret
              exact ⟨by rw [← HK.out]; rfl, HUW.out⟩
          · have g3 : decide (0 < k.tear) = false := decide_eq_false e3
            rw [if_neg (fun e => e3 e.1)] at hk2
            have HK := Lib.hid hk2
            clear hk2 e3
            go_wp2_with fail
            go_ret
            exact ⟨by rw [← HK.out]; rfl, HUW.out⟩
    · obtain rfl : q = n := by omega
      have hk := HK.out
      rw [List.drop_eq_nil_of_le (by rw [← HN.out]; exact Nat.le_refl _), keptM_nil] at hk
      have HK2 := Lib.hid hk
      clear hk hbr HK
      go_wp2_with fail
      go_ret
      exact ⟨by rw [← HK2.out]; rfl, HBR.out⟩
end Go.Proofs.Ytjmjehhmkjhalaa
