/- DZ, SlGood, SlArgs: put together. -/
import Derived.Test.YtjmjehhmkjhalaaQb22
import Derived.Test.YtjmjehhmkjhalaaQb29
import Derived.Test.YtjmjehhmkjhalaaQb28
import Derived.ProofKit
import Derived.OpenShut
/- Rows of numbers (as in DDoX, for a seat without the statements of layer 2). -/
namespace Go.Proofs.Ytjmjehhmkjhalaa
set_option maxRecDepth 100000
open Go.ChangeShapes Go.WideShapes Go.ChangeAt Go.RowKit
section
variable {H : Type} {enc : TypeId × Value → H} {W : World} {sp : Nat → Bool}
/-- A row of numbers. -/
def zV (n : Int) : List Value := [.int .i64 n]
abbrev Zs (w : World) (A : Option Addr) (l : List Int) : Prop := RowAt zV 1 w A l.length l
theorem open_z {fuel : Nat} {cs : List Value} {x : DataW H × List MemPlace} (hf : DataW.trod enc Try.prog W 0 sp true fuel 3 cs = some x) : ∃ q : Int, cs = zV q ∧ (-9223372036854775808 ≤ q ∧ q ≤ 9223372036854775807) := by
  obtain ⟨a0, e0, _, w0⟩ := DataW.trod_int Try.underlying3 hf
  exact ⟨a0, e0, bounds_i64 w0⟩
end
end Go.Proofs.Ytjmjehhmkjhalaa

/- A manifest in memory; the program's Good. -/
namespace Go.Proofs.Ytjmjehhmkjhalaa
set_option maxRecDepth 100000
open Go.RowKit

def badH (h : Int) : Bool := decide (h < 0) || decide (4294967294 < h)
theorem head_any (h : Int) (w : World) : Calls Try.prog 116 #[.int .i64 h] w fun e w' => e = .returned (.bool (badH h)) ∧ Below w.heap.size w w' := by
  have HR := Lib.hid (show badH h = (decide (h < 0) || decide (4294967294 < h)) from rfl)
  by_cases h1 : h < 0
  · have d1 : decide (h < 0) = true := decide_eq_true h1
    go_enter Try.func116, Try.ntmps116
    go_wp2_with fail
    go_ret
    exact ⟨by rw [HR.out, d1]; rfl, Below.refl _ _⟩
  · have d1 : decide (h < 0) = false := decide_eq_false h1
    go_enter Try.func116, Try.ntmps116
    go_wp2_with fail
    go_ret
    exact ⟨by rw [HR.out, d1]; rfl, Below.refl _ _⟩
/-- The first bad one; -1: there is none. -/
def firstH (l : List Int) : Int := match l.findIdx? badH with | some i => (i : Int) | none => -1
theorem firstH_none {l : List Int} (h : ∀ j (hj : j < l.length), badH l[j] = false) : firstH l = -1 := by
  unfold firstH
  have : l.findIdx? badH = none := by
    rw [List.findIdx?_eq_none_iff]
    intro x hx
    obtain ⟨i, hi, rfl⟩ := List.getElem_of_mem hx
    exact h i hi
  rw [this]
theorem firstH_some {l : List Int} (k : Nat) (hk : k < l.length) (hp : badH l[k] = true) (h : ∀ j (hj : j < l.length), j < k → badH l[j] = false) : firstH l = (k : Int) := by
  unfold firstH
  have : l.findIdx? badH = some k := by
    rw [List.findIdx?_eq_some_iff_getElem]
    exact ⟨hk, hp, fun j hj => by rw [h j (by omega) hj]; simp⟩
  rw [this]
theorem zs_cells {w : World} {A : Option Addr} {l : List Int} (h : Zs w A l) (hn : 0 < l.length) : ∃ b off, A = some ⟨b, off, none⟩ ∧ ∀ q (hq : q < l.length), w.cell? ⟨b, off + q, none⟩ = some (.int .i64 l[q]) := by
  obtain ⟨b, off, e, hc⟩ := RowAt.cells h (fun _ => rfl) hn
  exact ⟨b, off, e, fun q hq => by have := hc q hq 0 _ (by decide) rfl; simpa using this⟩
set_option maxHeartbeats 1000000 in
theorem firstH_any (A : Option Addr) (c : Nat) (l : List Int) (w : World) (h : Zs w A l) (hn : l.length ≤ 9223372036854775807) :
    Calls Try.prog 145 #[.slice A l.length c, .func (.func 116) #[] #[]] w fun e w' => e = .returned (.int .i64 (firstH l)) ∧ Below w.heap.size w w' := by
  have HH := Lib.hid h
  obtain ⟨n, hnn⟩ : ∃ n, n = l.length := ⟨_, rfl⟩
  rw [← hnn] at hn ⊢
  have HL := Lib.hid hnn
  have HX := Lib.hid (show ∀ q : Nat, q = n → (∀ j (hj : j < l.length), j < q → badH l[j] = false) → firstH l = -1 from fun q hq hno => firstH_none fun j hj => hno j hj (by omega))
  have HE := Lib.hid (show ∀ j (hj : j < l.length), badH l[j] = true → (∀ i (hi : i < l.length), i < j → badH l[i] = false) → firstH l = (j : Int) from fun j hj he hno => firstH_some j hj he hno)
  obtain ⟨R, hR⟩ : ∃ R, R = firstH l := ⟨_, rfl⟩
  rw [← hR] at HX HE ⊢
  clear hR h hnn
  go_enter Try.func145, Try.ntmps145
  go_wp2_with fail
  go_loopw [5, 8] (fun _ i wr => ∃ q : Nat, i = .int .i64 (q : Int) ∧ q ≤ n ∧ Hid (∀ j (hj : j < l.length), j < q → badH l[j] = false) ∧ Below w.heap.size w wr) (fun _ i _ => n - (intOf i).toNat)
  case atStart => exact ⟨0, rfl, by omega, Lib.hid fun j _ h => by omega, Below.refl _ _⟩
  case round =>
    obtain ⟨q, rfl, hq, hno, hbr⟩ := hrel
    have HBR := Lib.hid hbr
    by_cases hlt : q < n
    · have hql : q < l.length := by rw [← HL.out]; exact hlt
      obtain ⟨b, off, rfl, hc⟩ := zs_cells (RowAt.below HH.out hbr) (by omega)
      have hcq := hc q hql
      obtain ⟨x, hx⟩ : ∃ x, x = l[q] := ⟨_, rfl⟩
      rw [← hx] at hcq
      have HXQ := Lib.hid hx
      have HC := Lib.hid (head_any x wr)
      obtain ⟨bd, hbd⟩ : ∃ bd, bd = badH x := ⟨_, rfl⟩
      rw [← hbd] at HC
      have HBD := Lib.hid hbd
      clear hc hx hbr hbd
      go_wp2_with fail
      refine Calls.mono HC.out ?_
      rintro e w5 ⟨rfl, hb5⟩
      have HB5 := Lib.hid (HBR.out.trans (hb5.mono HBR.out.size))
      clear hb5
      cases bd with
      | true =>
        go_wp2_with fail
        go_ret
        exact ⟨by rw [HE.out q hql (by rw [← HXQ.out]; exact HBD.out.symm) hno.out]; rfl, HB5.out⟩
      | false =>
        go_wp2_with fail
        go_roundw
        case rel =>
          refine ⟨q + 1, by go_num, by omega, Lib.hid fun j hj hjq => ?_, HB5.out⟩
          rcases Nat.lt_or_ge j q with h1 | h1
          · exact hno.out j hj h1
          · obtain rfl : j = q := by omega
            rw [← HXQ.out]; exact HBD.out.symm
        case measure => simp [intOf]; omega
    · obtain rfl : n = q := by omega
      clear hbr
      go_wp2_with fail
      go_ret
      exact ⟨by rw [HX.out n rfl hno.out]; rfl, HBR.out⟩
theorem anyH_of (l : List Int) : decide (0 ≤ firstH l) = l.any badH := by
  by_cases h : ∃ j, ∃ hj : j < l.length, badH l[j] = true
  · have key : ∃ k, ∃ hk : k < l.length, badH l[k] = true ∧ ∀ j (hj : j < l.length), j < k → badH l[j] = false := by
      obtain ⟨j, hj, e⟩ := h
      induction j using Nat.strongRecOn with
      | ind j ih =>
        by_cases q : ∃ i, ∃ hi : i < l.length, i < j ∧ badH l[i] = true
        · obtain ⟨i, hi, h1, h2⟩ := q
          exact ih i h1 hi h2
        · exact ⟨j, hj, e, fun i hi h1 => by
            cases h2 : badH l[i] with
            | false => rfl
            | true => exact absurd ⟨i, hi, h1, h2⟩ q⟩
    obtain ⟨k, hk, e, hno⟩ := key
    rw [firstH_some k hk e hno, decide_eq_true (by omega)]
    exact (List.any_eq_true.2 ⟨_, List.getElem_mem hk, e⟩).symm
  · have hn : ∀ j (hj : j < l.length), badH l[j] = false := fun j hj => by
      cases h2 : badH l[j] with
      | false => rfl
      | true => exact absurd ⟨j, hj, h2⟩ h
    rw [firstH_none hn, decide_eq_false (by omega)]
    symm
    rw [List.any_eq_false]
    intro x hx
    obtain ⟨i, hi, rfl⟩ := List.getElem_of_mem hx
    rw [hn i hi]; decide
set_option maxHeartbeats 400000 in
theorem anyH_any (A : Option Addr) (c : Nat) (l : List Int) (w : World) (h : Zs w A l) (hn : l.length ≤ 9223372036854775807) :
    Calls Try.prog 115 #[.slice A l.length c, .func (.func 116) #[] #[]] w fun e w' => e = .returned (.bool (l.any badH)) ∧ Below w.heap.size w w' := by
  have HC := Lib.hid (firstH_any A c l w h hn)
  have HA := Lib.hid (anyH_of l)
  obtain ⟨r, hr⟩ : ∃ r, r = firstH l := ⟨_, rfl⟩
  rw [← hr] at HC HA
  obtain ⟨b, hb⟩ : ∃ b, b = l.any badH := ⟨_, rfl⟩
  rw [← hb] at HA ⊢
  obtain ⟨n, hnn⟩ : ∃ n, n = l.length := ⟨_, rfl⟩
  rw [← hnn] at HC ⊢
  clear hr hb hnn h hn
  go_enter Try.func115, Try.ntmps115
  go_wp2_with fail
  refine Calls.mono HC.out ?_
  rintro e w1 ⟨rfl, hb1⟩
  have HB1 := Lib.hid hb1
  clear hb1
  go_wp2_with fail
  go_ret
  exact ⟨by rw [HA.out]; rfl, HB1.out⟩
/-- The cells of a manifest. -/
def mfC (m : Mf) (A : Option Addr) (c : Nat) : Array Value := #[.int .i64 m.gen, .int .i64 m.epoch, .int .i64 m.base, .int .i64 m.area, .int .i64 m.len, .slice A m.heads.length c]
def goodB (m : Mf) : Bool := decide (1 ≤ m.gen) && decide (m.gen ≤ 17179869183) && decide (1 ≤ m.epoch) && decide (m.epoch ≤ 65535) && decide (0 ≤ m.base) && decide (m.base ≤ 281474976710655) && decide (0 ≤ m.area) && decide (m.area ≤ 1) && decide (0 ≤ m.len) && decide (m.len ≤ 1048576) && decide (1 ≤ m.heads.length) && decide (m.heads.length ≤ 4) && !m.heads.any badH
theorem goodB_iff (m : Mf) : goodB m = true ↔ GoodM m := by
  unfold goodB
  simp only [Bool.and_eq_true, decide_eq_true_eq, Bool.not_eq_true', List.any_eq_false]
  constructor
  · rintro ⟨⟨⟨⟨⟨⟨⟨⟨⟨⟨⟨⟨a, b⟩, c⟩, d⟩, e⟩, f⟩, g⟩, h⟩, i⟩, j⟩, k⟩, l⟩, q⟩
    refine ⟨a, b, c, d, e, f, g, h, i, j, k, l, fun x hx => ?_⟩
    have := q x hx
    unfold badH at this
    simp at this
    omega
  · rintro ⟨a, b, c, d, e, f, g, h, i, j, k, l, q⟩
    refine ⟨⟨⟨⟨⟨⟨⟨⟨⟨⟨⟨⟨a, b⟩, c⟩, d⟩, e⟩, f⟩, g⟩, h⟩, i⟩, j⟩, k⟩, l⟩, fun x hx => ?_⟩
    have := q x hx
    unfold badH
    simp
    omega
end Go.Proofs.Ytjmjehhmkjhalaa

/- A sector and a manifest that came in, opened. -/
namespace Go.Proofs.Ytjmjehhmkjhalaa
set_option maxRecDepth 100000
open Go.ChangeShapes Go.WideShapes Go.ChangeAt Go.RowKit

def natIn : Value → Nat
  | .int _ n => n.toNat
  | _ => 0
theorem cell_u8 {w : World} {r : Reach} {base : Nat} {v : Value} (hc : Cell.okWide Try.prog w r base 5 v) : v = Value.int .u8 ((natIn v : Nat) : Int) ∧ natIn v < 256 := by
  unfold Cell.okWide at hc
  rw [Try.underlying5] at hc
  cases v with
  | int q n =>
    simp only [Cell.ok] at hc
    obtain ⟨rfl, h⟩ := hc
    have h1 : 0 ≤ n := (show IntKind.u8.min = 0 by decide) ▸ h.1
    have h2 : n ≤ 255 := (show IntKind.u8.max = 255 by decide) ▸ h.2
    exact ⟨by simp only [natIn]; rw [Int.toNat_of_nonneg h1], by simp only [natIn]; omega⟩
  | _ => simp_all [Cell.ok]
theorem open_sector {w : World} {r : Reach} {base : Nat} {v : Value} (h : Value.okWide Try.prog w r base 75 v) : ∃ l : List Nat, v = .agg (secV l) ∧ l.length = 64 ∧ ∀ x ∈ l, x < 256 := by
  unfold Value.okWide at h
  rw [Try.underlying75] at h
  obtain ⟨cs, rfl, hsz, ts, h1, _, h3⟩ := h
  have hts : Try.prog.cellTypes Try.prog.depth 75 = some (List.replicate 64 5) := by kernel_rfl
  have hk : Try.prog.cellsOf 75 = 64 := by kernel_rfl
  rw [hts] at h1
  injection h1 with h1
  subst h1
  have hall : ∀ (i : Nat) (v : Value), cs[i]? = some v → v = Value.int .u8 ((natIn v : Nat) : Int) ∧ natIn v < 256 := by
    intro i v hv
    obtain ⟨u, hu, hc⟩ := h3 i v hv
    have hu5 : u = 5 := (List.mem_replicate.1 (List.mem_of_getElem? hu)).2
    subst hu5
    exact cell_u8 hc
  refine ⟨cs.toList.map natIn, ?_, by simp [hsz, hk], ?_⟩
  · congr 1
    unfold secV valsB
    rw [List.map_map]
    apply Array.ext
    · simp
    · intro i h1 h2
      have he := (hall i cs[i] (by simp [h1])).1
      simp only [List.getElem_toArray, List.getElem_map, Function.comp, Array.getElem_toList]
      exact he
  · intro x hx
    simp only [List.mem_map] at hx
    obtain ⟨v, hv, rfl⟩ := hx
    obtain ⟨i, hi, he⟩ := List.getElem_of_mem hv
    exact (hall i v (by rw [← he]; simp at hi ⊢)).2
section
variable {H : Type} {enc : TypeId × Value → H} {W : World} {sp : Nat → Bool}
theorem trod_struct6 {P : Program} {base : Nat} {held : Bool} {t : TypeId} {f0 f1 f2 f3 f4 f5 : Field} {fuel : Nat} {cs : List Value} {x : DataW H × List MemPlace} (ht : P.underlying t = some (.struct #[f0, f1, f2, f3, f4, f5])) (h : DataW.trod enc P W base sp held fuel t cs = some x) :
    ∃ y0 y1 y2 y3 y4 y5 n, cs.length = P.cellsOf t ∧ DataW.trod enc P W base sp held n f0.type ((cs.drop f0.offset).take (P.cellsOf f0.type)) = some y0 ∧
      DataW.trod enc P W base sp held n f1.type ((cs.drop f1.offset).take (P.cellsOf f1.type)) = some y1 ∧ DataW.trod enc P W base sp held n f2.type ((cs.drop f2.offset).take (P.cellsOf f2.type)) = some y2 ∧
      DataW.trod enc P W base sp held n f3.type ((cs.drop f3.offset).take (P.cellsOf f3.type)) = some y3 ∧ DataW.trod enc P W base sp held n f4.type ((cs.drop f4.offset).take (P.cellsOf f4.type)) = some y4 ∧
      DataW.trod enc P W base sp held n f5.type ((cs.drop f5.offset).take (P.cellsOf f5.type)) = some y5 := by
  obtain ⟨xs, n, _, rfl, hl, hlen, hf⟩ := DataW.trod_struct ht h
  match xs, hlen with
  | [y0, y1, y2, y3, y4, y5], _ => exact ⟨y0, y1, y2, y3, y4, y5, n, hl, by simpa using hf 0 f0 rfl, by simpa using hf 1 f1 rfl, by simpa using hf 2 f2 rfl, by simpa using hf 3 f3 rfl, by simpa using hf 4 f4 rfl, by simpa using hf 5 f5 rfl⟩
theorem cellsMf : Try.prog.cellsOf 91 = 6 := by kernel_rfl
theorem cellsIs : Try.prog.cellsOf 22 = 1 := by kernel_rfl
theorem open_mf {fuel : Nat} {cs : List Value} {x : DataW H × List MemPlace} (hf : DataW.trod enc Try.prog W 0 sp true fuel 91 cs = some x) :
    ∃ m A c, cs = (mfC m A c).toList ∧ Zs W A m.heads ∧ m.heads.length ≤ 9223372036854775807 ∧ (A = none → c = 0) := by
  obtain ⟨y0, y1, y2, y3, y4, y5, n, hl, g0, g1, g2, g3, g4, g5⟩ := trod_struct6 Try.underlying91 hf
  rw [cellsMf] at hl
  match cs, hl with
  | [v0, v1, v2, v3, v4, v5], _ =>
    simp [cells3, cellsIs] at g0 g1 g2 g3 g4 g5
    obtain ⟨a0, e0, _⟩ := DataW.trod_int Try.underlying3 g0
    obtain ⟨a1, e1, _⟩ := DataW.trod_int Try.underlying3 g1
    obtain ⟨a2, e2, _⟩ := DataW.trod_int Try.underlying3 g2
    obtain ⟨a3, e3, _⟩ := DataW.trod_int Try.underlying3 g3
    obtain ⟨a4, e4, _⟩ := DataW.trod_int Try.underlying3 g4
    injection e0 with e0
    injection e1 with e1
    injection e2 with e2
    injection e3 with e3
    injection e4 with e4
    obtain ⟨A, k, c, l, rfl, h1, h2, h3, _⟩ := open_rowat (f := zV) (k := 1) (fun _ : Int => True) (fun _ => rfl) (by decide) Try.underlying22 cells3 0 (fun h => by
      obtain ⟨q, hq, _⟩ := open_z h
      exact ⟨q, hq, trivial⟩) g5
    obtain rfl := h1.len
    exact ⟨⟨a0, a1, a2, a3, a4, l⟩, A, c, by rw [e0, e1, e2, e3, e4]; rfl, h1, h2, h3⟩
theorem open_mfv {v : Value} {base : Nat} {r : Reach} {x : DataW H × List MemPlace} (hv : Value.okWide Try.prog W r base 91 v) (h : ∃ fuel, DataW.trod enc Try.prog W 0 sp true fuel 91 v.cells.toList = some x) :
    ∃ m A c, v = .agg (mfC m A c) ∧ Zs W A m.heads ∧ m.heads.length ≤ 9223372036854775807 ∧ (A = none → c = 0) := by
  obtain ⟨cs, rfl, _⟩ := okWide_struct Try.underlying91 hv
  obtain ⟨fuel, hf⟩ := h
  obtain ⟨m, A, c, e, rest⟩ := open_mf hf
  refine ⟨m, A, c, ?_, rest⟩
  have e' : cs.toList = (mfC m A c).toList := e
  rw [Array.toList_inj.1 e']
end
end Go.Proofs.Ytjmjehhmkjhalaa
