/- foot's empty spans, taken out: the library's IndexFunc, DeleteFunc. -/
import Derived.Test.YtmicheheibkmjaaFOwn
import Derived.Test.YtmicheheibkmjaaFJoinM
import Derived.Test.YtmicheheibkmjaaGRead
import Derived.Deep.CutRange
import Derived.Deep.RegionHeld3
namespace Go.Proofs.Ytmicheheibkmjaa
set_option maxRecDepth 100000
open Go.RowKit

def empB (x : Sp) : Bool := decide (x.lo > x.hi)
set_option maxHeartbeats 1000000 in
theorem emp_any (x : Sp) (w : World) : Calls Try.prog 69 #[x.val] w fun e w' => e = .returned (.bool (empB x)) ∧ Below w.heap.size w w' := by
  have hbx := (Below.refl w.heap.size w).alloc (Nat.le_refl _) (.cells #[.int .i64 x.t, .int .i64 x.lo, .int .i64 x.hi] 54)
  have HB := Lib.hid hbx
  have HR := Lib.hid (show empB x = decide (x.lo > x.hi) from rfl)
  unfold Sp.val
  clear hbx
  go_enter Try.func69, Try.ntmps69
  go_wp2_with fail
  go_ret
  exact ⟨by rw [HR.out]; rfl, HB.out⟩
/-- The first empty one; -1: there is none. -/
def firstE (l : List Sp) : Int := match l.findIdx? empB with | some i => (i : Int) | none => -1
theorem firstE_none {l : List Sp} (h : ∀ j (hj : j < l.length), empB l[j] = false) : firstE l = -1 := by
  unfold firstE
  have : l.findIdx? empB = none := by
    rw [List.findIdx?_eq_none_iff]
    intro x hx
    obtain ⟨i, hi, rfl⟩ := List.getElem_of_mem hx
    exact h i hi
  rw [this]
theorem firstE_some {l : List Sp} (k : Nat) (hk : k < l.length) (hp : empB l[k] = true) (h : ∀ j (hj : j < l.length), j < k → empB l[j] = false) : firstE l = (k : Int) := by
  unfold firstE
  have : l.findIdx? empB = some k := by
    rw [List.findIdx?_eq_some_iff_getElem]
    exact ⟨hk, hp, fun j hj => by rw [h j (by omega) hj]; simp⟩
  rw [this]
set_option maxHeartbeats 1000000 in
theorem firstE_any (A : Option Addr) (n c : Nat) (l : List Sp) (w : World) (h : Spans w A n l) (hn : n ≤ 9223372036854775807) :
    Calls Try.prog 76 #[.slice A n c, .func (.func 69) #[] #[]] w fun e w' => e = .returned (.int .i64 (firstE l)) ∧ Below w.heap.size w w' := by
  have HH := Lib.hid h
  have HL := Lib.hid h.len
  have HX := Lib.hid (show ∀ q : Nat, q = n → (∀ j (hj : j < l.length), j < q → empB l[j] = false) → firstE l = -1 from fun q hq hno => firstE_none fun j hj => hno j hj (by have := h.len; omega))
  have HE := Lib.hid (show ∀ j (hj : j < l.length), empB l[j] = true → (∀ i (hi : i < l.length), i < j → empB l[i] = false) → firstE l = (j : Int) from fun j hj he hno => firstE_some j hj he hno)
  obtain ⟨R, hR⟩ : ∃ R, R = firstE l := ⟨_, rfl⟩
  rw [← hR] at HX HE ⊢
  clear hR h
  go_enter Try.func76, Try.ntmps76
  go_wp2_with fail
  go_loopw [5, 8] (fun _ i wr => ∃ q : Nat, i = .int .i64 (q : Int) ∧ q ≤ n ∧ Hid (∀ j (hj : j < l.length), j < q → empB l[j] = false) ∧ Below w.heap.size w wr) (fun _ i _ => n - (intOf i).toNat)
  case atStart => exact ⟨0, rfl, by omega, fun j _ h => by omega, Below.refl _ _⟩
  case round =>
    obtain ⟨q, rfl, hq, hno, hbr⟩ := hrel
    have HBR := Lib.hid hbr
    by_cases hlt : q < n
    · have hql : q < l.length := by rw [HL.out]; exact hlt
      obtain ⟨bs, off, rfl, hc⟩ := Spans.cells (HH.out.below hbr) (by omega)
      obtain ⟨c0, c1, c2⟩ := hc q hql
      have C := emp_any l[q] wr
      have HEK := Lib.hid (show empB l[q] = true → R = (q : Int) from fun he => HE.out q hql he hno.out)
      have HNK := Lib.hid (show empB l[q] = false → ∀ j (hj : j < l.length), j < q + 1 → empB l[j] = false from fun h j hj hj2 => by
        by_cases e : j = q
        · subst e; exact h
        · exact hno.out j hj (by omega))
      obtain ⟨y, hy⟩ : ∃ y, y = l[q] := ⟨_, rfl⟩
      rw [← hy] at c0 c1 c2 C HEK HNK
      unfold Sp.val at C
      obtain ⟨r, hr⟩ : ∃ r, r = empB y := ⟨_, rfl⟩
      rw [← hr] at C HEK HNK
      have HC := Lib.hid C
      clear hc hy hbr C hr
      cases r with
      | true =>
        go_wp2_with fail
        refine Calls.mono HC.out ?_
        rintro e w2 ⟨rfl, hb2⟩
        have HB2 := Lib.hid (HBR.out.trans (hb2.mono HBR.out.size))
        clear hb2
        go_wp2_with fail
        go_ret
        exact ⟨by rw [HEK.out (by first | rfl | trivial)]; rfl, HB2.out⟩
      | false =>
        go_wp2_with fail
        refine Calls.mono HC.out ?_
        rintro e w2 ⟨rfl, hb2⟩
        have HB2 := Lib.hid (HBR.out.trans (hb2.mono HBR.out.size))
        clear hb2
        go_wp2_with fail
        go_roundw
        case rel => exact ⟨q + 1, by go_num, by omega, HNK.out (by first | rfl | trivial), HB2.out⟩
        case measure => simp [intOf]; omega
    · obtain rfl : n = q := by omega
      have hR := HX.out n rfl hno.out
      clear hbr
      go_wp2_with fail
      go_ret
      exact ⟨by rw [hR]; rfl, HBR.out⟩
/-- An own row of spans while it is turned. -/
structure SP (w : World) (B g n c : Nat) (r : List Sp) (W : World) : Prop where
  own : W.ownsRow B 54 3 (.slice (some ⟨g, 0, none⟩) n c) n (rowV Sp.vals r)
  grown : w.grownBy W (some g)
  len : r.length = n
section
variable {w : World} {B g n c : Nat} {r : List Sp} {W : World}
theorem own_below {W' : World} {xs : List Value} {e k : Nat} (h : W.ownsRow B e k (.slice (some ⟨g, 0, none⟩) n c) n xs) (hb : Below W.heap.size W W') : W'.ownsRow B e k (.slice (some ⟨g, 0, none⟩) n c) n xs :=
  h.kept (row := none) (grown_below hb none) (.inr (by simp [Value.ownBlock]))
theorem SP.below {W' : World} (h : SP w B g n c r W) (hb : Below W.heap.size W W') : SP w B g n c r W' :=
  ⟨own_below h.own hb, grown_trans h.grown (grown_below hb _), h.len⟩
theorem SP.cells (h : SP w B g n c r W) (i : Nat) (hi : i < r.length) :
    W.cell? ⟨g, i * 3, none⟩ = some (.int .i64 r[i].t) ∧ W.cell? ⟨g, i * 3 + 1, none⟩ = some (.int .i64 r[i].lo) ∧ W.cell? ⟨g, i * 3 + 2, none⟩ = some (.int .i64 r[i].hi) := by
  have h0 := rowV_get Sp.vals 3 Sp.len r i hi 0 (by decide)
  have h1 := rowV_get Sp.vals 3 Sp.len r i hi 1 (by decide)
  have h2 := rowV_get Sp.vals 3 Sp.len r i hi 2 (by decide)
  exact ⟨own_cell h.own _ _ h0, own_cell h.own _ _ h1, own_cell h.own _ _ h2⟩
theorem SP.set (h : SP w B g n c r W) (i : Nat) (hi : i < n) (y : Sp) :
    SP w B g n c (r.set i y) (((W.setCell ⟨g, i * 3, none⟩ (.int .i64 y.t)).setCell ⟨g, i * 3 + 1, none⟩ (.int .i64 y.lo)).setCell ⟨g, i * 3 + 2, none⟩ (.int .i64 y.hi)) := by
  obtain ⟨h1, h2⟩ := own_setCells y.vals (i * 3) h.own
  rw [rowV_set Sp.len (by decide) r i (by rw [h.len]; exact hi) y] at h1
  exact ⟨h1, grown_trans h.grown h2, by rw [List.length_set]; exact h.len⟩
theorem SP.spans (h : SP w B g n c r W) : Spans W (some ⟨g, 0, none⟩) n r := by
  refine ⟨h.len, ?_⟩
  obtain ⟨A, c', e, h1, _, _⟩ := rdv_own h.own
  injection e with e1 e2 e3
  subst e1
  exact h1
end
theorem sbox {wr w2 : World} {u : Sp} (hb : Below (wr.alloc (.cells #[.int .i64 u.t, .int .i64 u.lo, .int .i64 u.hi] 54)).heap.size (wr.alloc (.cells #[.int .i64 u.t, .int .i64 u.lo, .int .i64 u.hi] 54)) w2) :
    w2.cell? ⟨wr.heap.size, 0, none⟩ = some (.int .i64 u.t) ∧ w2.cell? ⟨wr.heap.size, 1, none⟩ = some (.int .i64 u.lo) ∧ w2.cell? ⟨wr.heap.size, 2, none⟩ = some (.int .i64 u.hi) := by
  have hg := (hb.block wr.heap.size (by rw [World.size_alloc]; omega)).trans (heap_alloc_new wr _)
  exact ⟨(cell_of_row w2 _ 0 _ 54 (0, 0) hg).trans rfl, (cell_of_row w2 _ 1 _ 54 (0, 0) hg).trans rfl, (cell_of_row w2 _ 2 _ 54 (0, 0) hg).trans rfl⟩
def keepB (x : Sp) : Bool := !empB x
set_option maxHeartbeats 2000000 in
theorem delete_any (g n c B : Nat) (l : List Sp) (w : World) (h : w.ownsRow B 54 3 (.slice (some ⟨g, 0, none⟩) n c) n (rowV Sp.vals l)) (hl : l.length = n) (hn : n ≤ 1000000) :
    Calls Try.prog 68 #[.slice (some ⟨g, 0, none⟩) n c, .func (.func 69) #[] #[]] w fun e w' => ∃ m : Nat, e = .returned (.slice (some ⟨g, 0, none⟩) m c) ∧ (l.filter keepB).length = m ∧ w'.ownsRow B 54 3 (.slice (some ⟨g, 0, none⟩) m c) m (rowV Sp.vals (l.filter keepB)) ∧ w.grownBy w' (some g) := by
  have HC := Lib.hid (show SP w B g n c l w from ⟨h, grown_refl _ _, hl⟩)
  have HL := Lib.hid hl
  have HLT := Lib.hid (own_lt h)
  have HF := Lib.hid (firstE_any _ n c l w HC.out.spans (by omega))
  by_cases hall : ∀ j (hj : j < l.length), empB l[j] = false
  · have HD := Lib.hid (show l.filter keepB = l by
      rw [List.filter_eq_self]
      intro x hx
      obtain ⟨i, hi, rfl⟩ := List.getElem_of_mem hx
      simp [keepB, hall i hi])
    rw [firstE_none hall] at HF
    clear hall h hl
    go_enter Try.func68, Try.ntmps68
    go_wp2_with fail
    refine Calls.mono HF.out ?_
    rintro e w1 ⟨rfl, hb1⟩
    have HB1 := Lib.hid hb1
    clear hb1
    go_wp2_with fail
    go_ret
    exact ⟨n, rfl, by rw [HD.out]; exact HL.out, by rw [HD.out]; exact own_below HC.out.own HB1.out, grown_below HB1.out _⟩
  · obtain ⟨i0, hi0, he0, hno0⟩ : ∃ i, ∃ (hi : i < l.length), empB l[i] = true ∧ ∀ j (hj : j < l.length), j < i → empB l[j] = false := by
      cases hf : l.findIdx? empB with
      | none =>
        exfalso
        apply hall
        intro j hj
        rw [List.findIdx?_eq_none_iff] at hf
        exact hf _ (List.getElem_mem hj)
      | some i =>
        rw [List.findIdx?_eq_some_iff_getElem] at hf
        obtain ⟨a1, a2, a3⟩ := hf
        exact ⟨i, a1, a2, fun j _ hj2 => by simpa using a3 j hj2⟩
    rw [firstE_some i0 hi0 he0 hno0] at HF
    have hin : i0 < n := by omega
    have hm1 : ((i0 : Int) == -1) = false := by simp
    have HT0 := Lib.hid (show l.take i0 = (l.take (i0 + 1)).filter keepB by
      rw [List.take_succ_eq_append_getElem hi0, List.filter_append]
      have e1 : (l.take i0).filter keepB = l.take i0 := by
        rw [List.filter_eq_self]
        intro x hx
        obtain ⟨j, hj, rfl⟩ := List.getElem_of_mem hx
        rw [List.length_take] at hj
        rw [List.getElem_take]
        simp [keepB, hno0 j (by omega) (by omega)]
      rw [e1]
      simp [keepB, he0])
    clear hall h hl hi0 he0 hno0
    go_enter Try.func68, Try.ntmps68
    go_wp2_with fail
    refine Calls.mono HF.out ?_
    rintro e w1 ⟨rfl, hb1⟩
    have HB1 := Lib.hid (HC.out.below hb1)
    clear hb1
    go_wp2_with fail
    go_loopw [5, 6, 7] (fun a5 a6 _ wx => ∃ (i j : Nat) (r : List Sp), a5 = .int .i64 (i : Int) ∧ a6 = .int .i64 (j : Int) ∧ i < j ∧ j ≤ n ∧ Hid (r.take i = (l.take j).filter keepB) ∧ Hid (∀ q, j ≤ q → r[q]? = l[q]?) ∧ SP w B g n c r wx) (fun _ a6 _ _ => n - (intOf a6).toNat)
    case atStart => exact ⟨i0, i0 + 1, l, rfl, by go_num, by omega, by omega, HT0.out, fun q _ => rfl, HB1.out⟩
    case round =>
      obtain ⟨i, j, r, rfl, rfl, hij, hjn, ht, hr, hsp⟩ := hrel
      have HX := Lib.hid hsp
      clear hsp
      by_cases hlt : j < n
      · have hjl : j < l.length := by rw [HL.out]; exact hlt
        have hjr : j < r.length := by rw [HX.out.len]; exact hlt
        have e1 : r[j] = l[j] := by
          have := hr.out j (Nat.le_refl _)
          rw [List.getElem?_eq_getElem hjr, List.getElem?_eq_getElem hjl] at this
          exact Option.some.inj this
        obtain ⟨x0, x1, x2⟩ := HX.out.cells j hjr
        rw [e1] at x0 x1 x2
        obtain ⟨u, hu⟩ : ∃ u, u = l[j] := ⟨_, rfl⟩
        have HT := Lib.hid (show (l.take (j + 1)).filter keepB = (l.take j).filter keepB ++ (if keepB u = true then [u] else []) by
          rw [List.take_succ_eq_append_getElem hjl, List.filter_append, ← hu]
          cases hk : keepB u <;> simp [hk])
        rw [← hu] at x0 x1 x2
        have HUW := Lib.hid (show Below wr.heap.size wr (wr.alloc (.cells #[.int .i64 u.t, .int .i64 u.lo, .int .i64 u.hi] 54)) from (Below.refl wr.heap.size wr).alloc (Nat.le_refl _) _)
        have C := emp_any u (wr.alloc (.cells #[.int .i64 u.t, .int .i64 u.lo, .int .i64 u.hi] 54))
        have HK := Lib.hid (show keepB u = !empB u from rfl)
        unfold Sp.val at C
        obtain ⟨em, hem⟩ : ∃ em, em = empB u := ⟨_, rfl⟩
        rw [← hem] at C HK
        have HCC := Lib.hid C
        clear C hem hu e1
        cases em with
        | true =>
          go_wp2_with fail
          refine Calls.mono HCC.out ?_
          rintro e w2 ⟨rfl, hb2⟩
          have HB2 := Lib.hid (HUW.out.trans (hb2.mono HUW.out.size))
          clear hb2
          go_wp2_with fail
          go_roundw
          case rel =>
            refine ⟨i, j + 1, r, rfl, by go_num, by omega, by omega, ?_, fun q hq => hr.out q (by omega), HX.out.below HB2.out⟩
            show r.take i = (l.take (j + 1)).filter keepB
            rw [ht.out, HT.out, HK.out]
            simp
          case measure => simp [intOf]; omega
        | false =>
          go_wp2_with fail
          refine Calls.mono HCC.out ?_
          rintro e w2 ⟨rfl, hb2⟩
          have HB2 := Lib.hid (HUW.out.trans (hb2.mono HUW.out.size))
          have HX2 := Lib.hid (HX.out.below HB2.out)
          obtain ⟨d0, d1, d2⟩ := HX2.out.cells i (by rw [HX2.out.len]; omega)
          obtain ⟨od, hod⟩ : ∃ od, od = r[i]'(by rw [HX2.out.len]; omega) := ⟨_, rfl⟩
          rw [← hod] at d0 d1 d2
          have f0 := own_frozen HX2.out.own (i * 3)
          have f1 := own_frozen HX2.out.own (i * 3 + 1)
          have f2 := own_frozen HX2.out.own (i * 3 + 2)
          obtain ⟨b0, b1, b2⟩ := sbox hb2
          clear hb2 hod
          go_wp2_with fail
          go_roundw
          case rel =>
            refine ⟨i + 1, j + 1, r.set i u, by go_num, by go_num, by omega, by omega, ?_, ?_, HX2.out.set i (by omega) u⟩
            · show (r.set i u).take (i + 1) = (l.take (j + 1)).filter keepB
              have e : (r.set i u).take (i + 1) = r.take i ++ [u] := by
                have hkr : i < r.length := by rw [HX.out.len]; omega
                rw [List.take_succ_eq_append_getElem (by rw [List.length_set]; exact hkr), List.getElem_set_self, List.take_set_of_le (Nat.le_refl _)]
              rw [e, ht.out, HT.out, HK.out]
              simp
            · intro q hq
              rw [List.getElem?_set_ne (by omega)]
              exact hr.out q (by omega)
          case measure => simp [intOf]; omega
      · have hck2 : ¬ c = i := by have := HLT.out.2.2.1; omega
        have hkn : i ≤ n := by omega
        have hkc : i ≤ c := by have := HLT.out.2.2.1; omega
        have HE := Lib.hid (show r.take i = l.filter keepB by
          have e : j = n := by omega
          rw [ht.out, e, ← HL.out, List.take_length])
        have HEL := Lib.hid (show (l.filter keepB).length = i by rw [← HE.out, List.length_take, HX.out.len]; omega)
        obtain ⟨w9, hrun, ho9, hg9⟩ := clear_own (P := Try.prog) (t := 28) (e := 54) Try.underlying28 Try.zeroValue54 (by rfl) (by intro v hv; simp [Value.cells] at hv; subst hv; rfl) (by decide) (m := i) (c' := c - i) 0 HX.out.own hkn
        have hcl : ∀ ty, (Builtin.clear_ #[28] ty #[.slice (some ⟨g, i * 3, none⟩) (n - i) (c - i)]).run Try.prog wr = .ok (.tuple #[]) w9 := fun ty => hrun
        have HO9 := Lib.hid ho9
        have HG9 := Lib.hid hg9
        clear ho9 hg9 hrun
        go_wp2_with fail
        go_ret
        refine ⟨i, rfl, HEL.out, ?_, grown_trans HX.out.grown HG9.out⟩
        rw [← HE.out, ← rowV_take Sp.len]
        exact HO9.out
end Go.Proofs.Ytmicheheibkmjaa
