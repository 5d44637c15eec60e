/- The contract of the document's Parts. -/
import Derived.Test.YtiemjgkpjmncfaaCopyO
import Derived.Test.YtiemjgkpjmncfaaMark3
import Derived.Test.YtiemjgkpjmncfaaParts
namespace Go.Proofs.Ytiemjgkpjmncfaa
set_option maxRecDepth 100000
open Go.RowKit

/-- The parts that were put out. -/
def PutOut (w wr : World) (ds : List Nat) (k : Nat) (v : Value) : Prop :=
  ∃ vs, wr.ownsRow w.heap.size 45 1 v k vs ∧ ∀ i, i < k → ∃ A c, vs[i]? = some (.slice A (partN ds i).length c) ∧ Rdv w A (partN ds i).length 1 (valsB (partN ds i))
theorem PutOut.push {w wr w2 : World} {ds : List Nat} {k : Nat} {v v2 : Value} {A : Option Addr} {c m : Nat} {vs : List Value} (hm : (partN ds k).length = m) (_ : wr.ownsRow w.heap.size 45 1 v k vs) (hv : ∀ i, i < k → ∃ A c, vs[i]? = some (.slice A (partN ds i).length c) ∧ Rdv w A (partN ds i).length 1 (valsB (partN ds i)))
    (h2 : w2.ownsRow w.heap.size 45 1 v2 (k + 1) (vs ++ [.slice A m c])) (hr : Rdv w A (partN ds k).length 1 (valsB (partN ds k))) : PutOut w w2 ds (k + 1) v2 := by
  subst hm
  refine ⟨_, h2, fun i hi => ?_⟩
  have hl : vs.length = k := by
    have := h2.1
    simp at this
    omega
  by_cases hik : i < k
  · obtain ⟨A', c', h3, h4⟩ := hv i hik
    exact ⟨A', c', by rw [List.getElem?_append_left (by omega)]; exact h3, h4⟩
  · obtain rfl : i = k := by omega
    exact ⟨A, c, by rw [List.getElem?_append_right (by omega), hl, Nat.sub_self]; rfl, hr⟩
theorem rdv_row1 (w : World) (v : Value) : Rdv (w.alloc (.cells #[v] 45)) (some ⟨w.heap.size, 0, none⟩) 1 1 [v] := ⟨rfl, fun _ => ⟨_, _, rfl, fun j u hj => by
  rw [cell_of_row _ _ _ _ 45 (0, 0) (heap_alloc_new w _), Nat.zero_add]
  simpa using hj⟩⟩
theorem one_slice (A : Option Addr) (n c : Nat) : ∀ u ∈ [Value.slice A n c], u.oneCell' = true := fun u hu => by
  simp only [List.mem_singleton] at hu
  rw [hu]; rfl
set_option maxHeartbeats 1000000 in
theorem refParts_any (A : Option Addr) (n c : Nat) (ds : List Nat) (w : World) (hr : Rdv w A n 1 (valsB ds)) (hc : n ≤ c) (hn : n ≤ 5000) :
    Calls Try.prog 47 #[.slice A n c] w fun e w' => ∃ v, e = .returned v ∧ ∃ R c', v = .slice R (needN n) c' ∧ RowsAre w' R (needN n) (partN ds) ∧ Below w.heap.size w w' := by
  have hl : ds.length = n := by have := hr.1; rw [valsB_length] at this; omega
  have hA : ∃ b off, 0 < n → A = some ⟨b, off, none⟩ := by
    by_cases h : 0 < n
    · obtain ⟨b, off, e, _⟩ := hr.2 h
      exact ⟨b, off, fun _ => e⟩
    · exact ⟨0, 0, fun h2 => absurd h2 h⟩
  obtain ⟨b, off, hA⟩ := hA
  have HL := Lib.hid hl
  have HR := Lib.hid hr
  have HA := Lib.hid hA
  have HP := Lib.hid (fun k (hk : 50 * k < n) => part_rdv (by rw [← hA (by omega)]; exact hr : Rdv w (some ⟨b, off, none⟩) n 1 (valsB ds)) k hk)
  clear hl hr hA
  go_enter Try.func47, Try.ntmps47
  go_wp2_with fail
  go_loopw [0, 3] (fun x v wr => ∃ (k : Nat) (X : Option Addr) (cc : Nat), x = .slice X (n - 50 * k) cc ∧ (0 < n → X = some ⟨b, off + 50 * k, none⟩) ∧ n - 50 * k ≤ cc ∧ cc ≤ c ∧ (k = 0 ∨ 50 * k < n) ∧ PutOut w wr ds k v ∧ Below w.heap.size w wr) (fun x _ _ => lenV x)
  case atStart => exact ⟨0, A, c, rfl, HA.out, hc, Nat.le_refl _, .inl rfl, ⟨[], World.ownsRow_nil _ _ _ _, fun _ hi => by omega⟩, Below.refl _ _⟩
  case round =>
    obtain ⟨k, X, cc, rfl, hX, hcc, hcc2, hk, ⟨vs, hown, hvs⟩, hb⟩ := hrel
    have hkn : 50 * k ≤ n := by omega
    obtain ⟨m, hm⟩ : ∃ m, m = n - 50 * k := ⟨_, rfl⟩
    have HM := Lib.hid hm
    rw [← hm] at hcc ⊢
    have HPO := Lib.hid (show PutOut w wr ds k _ from ⟨vs, hown, hvs⟩)
    have HB := Lib.hid hb
    have HO := Lib.hid hown
    have HV := Lib.hid hvs
    have hm5 : m ≤ 5000 := by omega
    have hpl := partN_length ds k
    rw [HL.out] at hpl
    clear hown hvs hb hm
    by_cases h50 : 50 < m
    · obtain rfl := hX (by have := HM.out; omega)
      have d1 : decide (50 < (m : Int)) = true := decide_eq_true (by omega)
      have hpl2 : (partN ds k).length = 50 := by have := HM.out; omega
      have hpr := HP.out k (by have := HM.out; omega)
      have HPR := Lib.hid hpr
      have HOW := Lib.hid (World.ownsRow.alloc HO.out (.cells #[.slice (some ⟨b, off + 50 * k, none⟩) 50 cc] 45))
      have HROW := Lib.hid (rdv_row1 wr (.slice (some ⟨b, off + 50 * k, none⟩) 50 cc))
      have HONE := Lib.hid (one_slice (some ⟨b, off + 50 * k, none⟩) 50 cc)
      have HM1 := Lib.hid (show k + 1 ≤ maxLen by unfold maxLen; omega)
      have HM2 := Lib.hid (show (k + 1) * 24 ≤ 140737488355328 by omega)
      have HB2 := Lib.hid (HB.out.alloc HB.out.size (.cells #[.slice (some ⟨b, off + 50 * k, none⟩) 50 cc] 45))
      have HP2 := Lib.hid hpl2
      clear hpr hpl hpl2 hX
      go_wp2_with (at_builtin; refine wpList_append_rowv elemL rfl (.tmp 7) (.tmp 10) rfl w.heap.size _ k vs rfl HOW.out (some ⟨wr.heap.size, 0, none⟩) 1 1 [.slice (some ⟨b, off + 50 * k, none⟩) 50 cc] rfl HROW.out HONE.out (fun h => by cases h) HM1.out HM2.out HB2.out.size ?_; intro v2 w4 hown4 hgr4 _)
      refine ⟨⟨k + 1, _, cc - 50, ?_, fun _ => rfl, by have := HM.out; omega, by omega, .inr (by have := HM.out; omega), PutOut.push HP2.out HO.out HV.out hown4 HPR.out, HB2.out.grown hgr4 HB2.out.size (fun q hq => (HO.out.lt q hq).1)⟩, ?_⟩
      · have e1 : off + 50 * (k + 1) = off + 50 * k + 50 := by omega
        have e2 : n - 50 * (k + 1) = m - 50 := by have := HM.out; omega
        rw [e1, e2]
      · simp [lenV]; omega
    · have d1 : decide (50 < (m : Int)) = false := decide_eq_false (by omega)
      by_cases hm0 : 0 < m
      · obtain rfl := hX (by have := HM.out; omega)
        have d2 : decide (0 < (m : Int)) = true := decide_eq_true (by omega)
        have hpl2 : (partN ds k).length = m := by have := HM.out; omega
        have hpr := HP.out k (by have := HM.out; omega)
        have HPR := Lib.hid hpr
        have HOW := Lib.hid (World.ownsRow.alloc HO.out (.cells #[.slice (some ⟨b, off + 50 * k, none⟩) m cc] 45))
        have HROW := Lib.hid (rdv_row1 wr (.slice (some ⟨b, off + 50 * k, none⟩) m cc))
        have HONE := Lib.hid (one_slice (some ⟨b, off + 50 * k, none⟩) m cc)
        have HM1 := Lib.hid (show k + 1 ≤ maxLen by unfold maxLen; omega)
        have HM2 := Lib.hid (show (k + 1) * 24 ≤ 140737488355328 by omega)
        have HB2 := Lib.hid (HB.out.alloc HB.out.size (.cells #[.slice (some ⟨b, off + 50 * k, none⟩) m cc] 45))
        have HP2 := Lib.hid hpl2
        clear hpr hpl hpl2 hX
        go_wp2_with (at_builtin; refine wpList_append_rowv elemL rfl (.tmp 17) (.tmp 19) rfl w.heap.size _ k vs rfl HOW.out (some ⟨wr.heap.size, 0, none⟩) 1 1 [.slice (some ⟨b, off + 50 * k, none⟩) m cc] rfl HROW.out HONE.out (fun h => by cases h) HM1.out HM2.out HB2.out.size ?_; intro v2 w4 hown4 hgr4 _)
        have HN := Lib.hid (show needN n = k + 1 by unfold needN; have := HM.out; omega)
        have HB4 := Lib.hid (HB2.out.grown hgr4 HB2.out.size (fun q hq => (HO.out.lt q hq).1))
        obtain ⟨vs4, h4, hv4⟩ := PutOut.push HP2.out HO.out HV.out hown4 HPR.out
        obtain ⟨R, c4, rfl, hr4, _, _⟩ := rdv_own h4
        have HR4 := Lib.hid hr4
        have HV4 := Lib.hid hv4
        clear hown4 hgr4 h4 hr4 hv4
        go_wp2_with fail
        go_ret
        rw [HN.out]
        refine ⟨_, rfl, R, c4, rfl, ?_, HB4.out⟩
        refine ⟨vs4, HR4.out, fun i hi => ?_⟩
        obtain ⟨A', c', h5, h6⟩ := HV4.out i hi
        exact ⟨A', _, c', h5, rfl, h6.ext (stays_b HB4.out)⟩
      · obtain rfl : m = 0 := by omega
        obtain ⟨rfl, rfl⟩ : k = 0 ∧ n = 0 := by have := HM.out; omega
        obtain ⟨R, c4, rfl, hr4, _, _⟩ := rdv_own HO.out
        have HR4 := Lib.hid hr4
        clear hr4 hpl hX
        go_wp2_with fail
        go_ret
        exact ⟨_, rfl, R, ⟨c4, rfl⟩, ⟨vs, HR4.out, fun i hi => absurd hi (by unfold needN; omega)⟩, HB.out⟩
end Go.Proofs.Ytiemjgkpjmncfaa
