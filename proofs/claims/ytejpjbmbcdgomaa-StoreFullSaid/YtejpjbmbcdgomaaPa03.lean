/- TFind: put together. -/
import Derived.Test.YtejpjbmbcdgomaaPa00
import Derived.Test.YtejpjbmbcdgomaaPa02
import Derived.WalkArith
import Derived.Deep.CutRange
import Derived.Deep.CutBlock
/- Items in memory; the binary search. -/
namespace Go.Proofs.Ytejpjbmbcdgomaa
set_option maxRecDepth 100000
open Go.RowKit

/-- A cell. -/
structure Cl where
  v : Int
  s : Int
  dead : Bool
abbrev Ix := It Cl
def Ix.vals (x : Ix) : List Value := [.int .i64 x.c.v, .int .i64 x.c.s, .bool x.c.dead, .int .i64 x.k]
theorem Ix.vlen (x : Ix) : x.vals.length = 4 := rfl
def cmpM (a b : Int) : Int := if a < b then -1 else if b < a then 1 else 0
set_option maxHeartbeats 1000000 in
theorem nan_any (a : Int) (w : World) : Calls Try.prog 126 #[.int .i64 a] w fun e w' => e = .returned (.bool false) ∧ w = w' := by
  have e0 : (a != a) = false := by simp
  go_enter Try.func126, Try.ntmps126
  go_wp2_with fail
  go_ret
  exact ⟨rfl, rfl⟩
set_option maxHeartbeats 1000000 in
theorem cmp_any (a b : Int) (w : World) : Calls Try.prog 115 #[.int .i64 a, .int .i64 b] w fun e w' => e = .returned (.int .i64 (cmpM a b)) ∧ w = w' := by
  have HN := Lib.hid fun (c : Int) => nan_any c w
  go_enter Try.func115, Try.ntmps115
  go_wp2_with fail
  refine Calls.mono (HN.out a) ?_
  rintro e w1 ⟨rfl, rfl⟩
  go_wp2_with fail
  refine Calls.mono (HN.out b) ?_
  rintro e w1 ⟨rfl, rfl⟩
  by_cases h1 : a < b
  · have HV := Lib.hid (show cmpM a b = -1 from by unfold cmpM; rw [if_pos h1])
    have d1 : decide (a < b) = true := decide_eq_true h1
    go_wp2_with fail
    go_ret
    exact ⟨by rw [HV.out]; rfl, rfl⟩
  · have d1 : decide (a < b) = false := decide_eq_false h1
    by_cases h2 : b < a
    · have HV := Lib.hid (show cmpM a b = 1 from by unfold cmpM; rw [if_neg h1, if_pos h2])
      have d2 : decide (b < a) = true := decide_eq_true h2
      go_wp2_with fail
      go_ret
      exact ⟨by rw [HV.out]; rfl, rfl⟩
    · have HV := Lib.hid (show cmpM a b = 0 from by unfold cmpM; rw [if_neg h1, if_neg h2])
      have d2 : decide (b < a) = false := decide_eq_false h2
      go_wp2_with fail
      go_ret
      exact ⟨by rw [HV.out]; rfl, rfl⟩
set_option maxHeartbeats 1000000 in
theorem find1_any (x : Ix) (k : Int) (w : World) : Calls Try.prog 122 #[.agg #[.int .i64 x.c.v, .int .i64 x.c.s, .bool x.c.dead, .int .i64 x.k], .int .i64 k] w fun e w' => e = .returned (.int .i64 (cmpM x.k k)) ∧ Below w.heap.size w w' := by
  have HB := Lib.hid (show Below w.heap.size w (w.alloc (.cells #[.int .i64 x.c.v, .int .i64 x.c.s, .bool x.c.dead, .int .i64 x.k] 166)) from (Below.refl _ _).alloc (Nat.le_refl _) _)
  go_enter Try.func122, Try.ntmps122
  go_wp2_with fail
  refine Calls.mono (cmp_any _ _ _) ?_
  rintro e w1 ⟨rfl, rfl⟩
  go_wp2_with fail
  go_ret
  exact ⟨rfl, HB.out⟩
theorem place_iff {α : Type} {l : List (It α)} (h : Up l) (k : Int) (j : Nat) (hj : j < l.length) : l[j].k < k ↔ j < place l k := by
  obtain ⟨h1, h2⟩ := place_take l k h
  constructor
  · intro e
    rcases Nat.lt_or_ge j (place l k) with h3 | h3
    · exact h3
    · have hm : l[j] ∈ l.drop (place l k) := by
        rw [List.mem_iff_getElem]
        refine ⟨j - place l k, by rw [List.length_drop]; omega, ?_⟩
        rw [List.getElem_drop]
        congr 1
        omega
      have := h2 _ hm
      omega
  · intro e
    refine h1 _ ?_
    rw [List.mem_iff_getElem]
    exact ⟨j, by rw [List.length_take]; omega, by rw [List.getElem_take]⟩
def foundB {α : Type} (l : List (It α)) (k : Int) : Bool := (foundAt l k).isSome
theorem cmpM_neg (a b : Int) : decide (cmpM a b < 0) = decide (a < b) := by
  unfold cmpM
  split
  · rename_i h; rw [decide_eq_true h]; rfl
  · rename_i h
    rw [decide_eq_false h]
    split <;> rfl
theorem cmpM_eq (a b : Int) : (cmpM a b == 0) = decide (a = b) := by
  unfold cmpM
  split
  · rw [decide_eq_false (by omega)]; rfl
  · split
    · rw [decide_eq_false (by omega)]; rfl
    · rw [decide_eq_true (by omega)]; rfl
abbrev Ixs (w : World) (A : Option Addr) (l : List Ix) : Prop := RowAt Ix.vals 4 w A l.length l
theorem Ixs.cell {w : World} {A : Option Addr} {l : List Ix} (h : Ixs w A l) (hn : 0 < l.length) : ∃ b off, A = some ⟨b, off, none⟩ ∧ ∀ q (hq : q < l.length), w.cell? ⟨b, off + q * 4, none⟩ = some (.int .i64 l[q].c.v) ∧ w.cell? ⟨b, off + q * 4 + 1, none⟩ = some (.int .i64 l[q].c.s) ∧ w.cell? ⟨b, off + q * 4 + 2, none⟩ = some (.bool l[q].c.dead) ∧ w.cell? ⟨b, off + q * 4 + 3, none⟩ = some (.int .i64 l[q].k) := by
  obtain ⟨b, off, e, hc⟩ := RowAt.cells h Ix.vlen hn
  exact ⟨b, off, e, fun q hq => ⟨hc q hq 0 _ (by omega) rfl, hc q hq 1 _ (by omega) rfl, hc q hq 2 _ (by omega) rfl, hc q hq 3 _ (by omega) rfl⟩⟩
set_option maxHeartbeats 4000000 in
theorem search_any (A : Option Addr) (c : Nat) (l : List Ix) (k : Int) (w : World) (h : Ixs w A l) (hl : l.length ≤ 1000000) (hu : Up l) :
    Calls Try.prog 121 #[.slice A l.length c, .int .i64 k, .func (.func 122) #[] #[]] w fun e w' => e = .returned (.tuple #[.int .i64 (place l k : Int), .bool (foundB l k)]) ∧ Below w.heap.size w w' := by
  have HH := Lib.hid h
  have HU := Lib.hid hu
  obtain ⟨n, hn⟩ : ∃ n, n = l.length := ⟨_, rfl⟩
  have HN := Lib.hid hn
  obtain ⟨p, hp⟩ : ∃ p, p = place l k := ⟨_, rfl⟩
  have HP := Lib.hid hp
  have hpn : p ≤ n := by rw [hp, hn]; exact place_le l k
  rw [← hn] at hl ⊢
  rw [← hp]
  clear h hu hn hp
  go_enter Try.func121, Try.ntmps121
  go_wp2_with fail
  go_loopw [9, 10] (fun i j wr => ∃ a b : Nat, i = .int .i64 (a : Int) ∧ j = .int .i64 (b : Int) ∧ a ≤ p ∧ p ≤ b ∧ b ≤ n ∧ Below w.heap.size w wr) (fun i j _ => (intOf j).toNat - (intOf i).toNat)
  case atStart => exact ⟨0, n, rfl, rfl, by omega, hpn, by omega, Below.refl _ _⟩
  case round =>
    obtain ⟨a, b, rfl, rfl, ha, hb, hbn, hbel⟩ := hrel
    have HB := Lib.hid hbel
    clear hbel
    by_cases hlt : a < b
    · obtain ⟨m, hm⟩ : ∃ m, m = (a + b) / 2 := ⟨_, rfl⟩
      have hmm : ((a : Int) + (b : Int)) / 2 = (m : Int) := by omega
      have hmn : m < n := by omega
      have hml : m < l.length := by rw [← HN.out]; exact hmn
      obtain ⟨bk, off, rfl, hc⟩ := Ixs.cell (RowAt.below HH.out HB.out) (by omega)
      obtain ⟨c0, c1, c2, c3⟩ := hc m hml
      have hpi := place_iff HU.out k m hml
      rw [← HP.out] at hpi
      obtain ⟨y, hy⟩ : ∃ y, y = l[m] := ⟨_, rfl⟩
      rw [← hy] at c0 c1 c2 c3 hpi
      have HPI := Lib.hid hpi
      have HMM := Lib.hid hmm
      have HM := Lib.hid hm
      clear hc hpi hy hmm hm
      go_upto_region 5 with fail
      rw [HMM.out]
      go_wp2_with fail
      refine Calls.mono (find1_any y k wr) ?_
      rintro e w1 ⟨rfl, b1⟩
      have HB1 := Lib.hid (HB.out.trans (b1.mono HB.out.size))
      have hcn := cmpM_neg y.k k
      obtain ⟨z, hz⟩ : ∃ z, z = cmpM y.k k := ⟨_, rfl⟩
      rw [← hz] at hcn ⊢
      clear hz b1 HB c0 c1 c2 c3
      by_cases hmp : m < p
      · have g : decide (z < 0) = true := by rw [hcn]; exact decide_eq_true (HPI.out.2 hmp)
        clear hcn
        go_wp2_with fail
        go_roundw
        case rel => exact ⟨m + 1, b, by go_num, rfl, by omega, hb, hbn, HB1.out⟩
        case measure => have := HM.out; simp [intOf]; omega
      · have g : decide (z < 0) = false := by rw [hcn]; exact decide_eq_false (fun e => hmp (HPI.out.1 e))
        clear hcn
        go_wp2_with fail
        go_roundw
        case rel => exact ⟨a, m, rfl, rfl, ha, by omega, by omega, HB1.out⟩
        case measure => have := HM.out; simp [intOf]; omega
    · obtain rfl : a = p := by omega
      by_cases hpl : a < n
      · have hal : a < l.length := by rw [← HN.out]; exact hpl
        obtain ⟨bk, off, rfl, hc⟩ := Ixs.cell (RowAt.below HH.out HB.out) (by omega)
        obtain ⟨c0, c1, c2, c3⟩ := hc a hal
        obtain ⟨y, hy⟩ : ∃ y, y = l[a] := ⟨_, rfl⟩
        have HF := Lib.hid (show foundB l k = decide (y.k = k) from by
          unfold foundB foundAt
          rw [← HP.out, List.getElem?_eq_getElem hal, ← hy]
          by_cases e : y.k = k
          · simp [e]
          · simp [e])
        rw [← hy] at c0 c1 c2 c3
        clear hc hy
        go_wp2_with fail
        refine Calls.mono (find1_any y k wr) ?_
        rintro e w1 ⟨rfl, b1⟩
        have HB1 := Lib.hid (HB.out.trans (b1.mono HB.out.size))
        have hce := cmpM_eq y.k k
        obtain ⟨z, hz⟩ : ∃ z, z = cmpM y.k k := ⟨_, rfl⟩
        rw [← hz] at hce ⊢
        rw [← HF.out] at hce
        clear hz b1 HB c0 c1 c2 c3
        go_wp2_with fail
        go_ret2
        exact ⟨rfl, HB1.out⟩
      · have HF := Lib.hid (show foundB l k = false from by
          unfold foundB foundAt
          rw [← HP.out, List.getElem?_eq_none (by rw [← HN.out]; omega)]
          rfl)
        go_wp2_with fail
        go_ret2
        exact ⟨by rw [HF.out]; rfl, HB.out⟩
end Go.Proofs.Ytejpjbmbcdgomaa
