/- The document's Levels. -/
import Derived.Test.YtgdkgoiagjjccaaGSmall
namespace Go.Proofs.Ytgdkgoiagjjccaa
set_option maxRecDepth 100000
open Go.RowKit

theorem lvTo_fits {ls : List (List Int)} (hg : GoodL ls) (k : Nat) (hk : k ≤ 100000) : ∀ x ∈ lvTo ls k, Fits x := by
  intro x hx
  obtain ⟨i, hi, he⟩ := List.getElem_of_mem hx
  have h1 := lvTo_bd hg k i (by rw [lvTo_len] at hi; exact hi)
  rw [getD_of hi, he] at h1
  rw [lvTo_len] at hi
  unfold Fits
  omega
theorem rdv_one2 (w : World) (v : Value) (t : TypeId) : Rdv (w.alloc (.cells #[v] t)) (some ⟨w.heap.size, 0, none⟩) 1 1 [v] :=
  ⟨rfl, fun _ => ⟨_, _, rfl, fun j u hj => by
    rcases j with _ | j
    · simp at hj; subst hj; rw [cell_of_row _ _ _ _ _ (0, 0) (heap_alloc_new w _)]; rfl
    · simp at hj⟩⟩
theorem one_int2 (z : Int) : ∀ u ∈ [Value.int .i64 z], u.oneCell' = true := by
  intro u hu; simp at hu; subst hu; rfl
set_option maxHeartbeats 2000000 in
theorem reflevels_ok (A : Option Addr) (n c : Nat) (ls : List (List Int)) (w : World) (h : Rws w A n ls) (hg : GoodL ls) (hn : n ≤ 10000) :
    Calls Try.prog 37 #[.slice A n c] w fun e w' => ∃ v, e = .returned v ∧ ∃ A' c', v = .slice A' n c' ∧ Nums w' A' n (lvTo ls n) ∧ Below w.heap.size w w' := by
  have HH := Lib.hid h
  have HG := Lib.hid hg
  clear h hg
  go_enter Try.func37, Try.ntmps37
  go_wp2_with fail
  go_loopw [3, 4, 5, 6] (fun v x _ _ wr => ∃ k : Nat, x = .int .i64 (k : Int) ∧ k ≤ n ∧ wr.ownsRow w.heap.size 3 1 v (lvTo ls k).length (valsZ (lvTo ls k)) ∧ Below w.heap.size w wr) (fun _ x _ _ _ => n - (intOf x).toNat)
  case atStart => exact ⟨0, rfl, by omega, World.ownsRow_nil _ _ _ _, Below.refl _ _⟩
  case round =>
    obtain ⟨k, rfl, hk, hown, hbr⟩ := hrel
    obtain ⟨A1, c1, hv1, hnum, _, _⟩ := nums_own hown (lvTo_fits HG.out k (by omega))
    rw [lvTo_len] at hv1 hnum
    subst hv1
    by_cases hlt : k < n
    · obtain ⟨b, off, rfl, hrow⟩ := (HH.out.below hbr).2.2 (by omega)
      obtain ⟨A', c', hc1, hnums, hm'⟩ := hrow k hlt
      have HOWN := Lib.hid hown
      have HB := Lib.hid hbr
      have HBD := Lib.hid (lvTo_bd HG.out k)
      have HRW := Lib.hid (lv1_row HG.out k)
      have HMM := Lib.hid (fun x => HG.out.mem (i := k) (x := x))
      have HS := Lib.hid (show lvTo ls (k + 1) = lvTo ls k ++ [lv1 (lvTo ls k) (ls.getD k [])] from rfl)
      have HLL := Lib.hid (lvTo_len ls k)
      obtain ⟨l, hl⟩ : ∃ l, l = ls.getD k [] := ⟨_, rfl⟩
      rw [← hl] at hc1 hnums hm' HRW HMM HS
      obtain ⟨u, hu⟩ : ∃ u, u = lvTo ls k := ⟨_, rfl⟩
      rw [← hu] at hnum HOWN HBD HRW HS HLL
      have HN := Lib.hid hnums
      have HU := Lib.hid hnum
      clear hrow hnums hnum hown hbr hl hu
      rename World => wr
      go_wp2_with fail
      go_loop [5, 6] (fun z x => ∃ q : Nat, x = .int .i64 (q : Int) ∧ q ≤ l.length ∧ z = .int .i64 (lv1 u (l.take q))) (fun _ x => l.length - (intOf x).toNat)
      case atStart => exact ⟨0, rfl, by omega, rfl⟩
      case round =>
        obtain ⟨q, rfl, hq, rfl⟩ := hrel
        by_cases hql : q < l.length
        · obtain ⟨b2, off2, rfl, hc2⟩ := HN.out.2.2 (by omega)
          have c2 := hc2 q hql
          have hxm := HMM.out _ (getD_mem hql)
          obtain ⟨x, hx⟩ : ∃ x : Nat, (x : Int) = l.getD q 0 := ⟨(l.getD q 0).toNat, by omega⟩
          have hnx := lv1_take (out := u) hql
          rw [← hx, Int.toNat_natCast] at hnx
          rw [← hx] at c2 hxm
          have hxk : x < k := by omega
          obtain ⟨b3, off3, rfl, hc3⟩ := HU.out.2.2 (by omega)
          have c3 := hc3 x hxk
          have hb3 := HBD.out x hxk
          have hz3 := HRW.out q
          obtain ⟨y, hy⟩ : ∃ y, y = u.getD x 0 := ⟨_, rfl⟩
          obtain ⟨z, hz⟩ : ∃ z, z = lv1 u (l.take q) := ⟨_, rfl⟩
          rw [← hy] at c3 hb3 hnx
          rw [← hz] at hz3 hnx ⊢
          have HNX := Lib.hid hnx
          clear hc2 hc3 hx hy hz hnx
          by_cases hyz : z ≤ y
          · go_wp2_with fail
            go_round
            case rel => exact ⟨q + 1, by go_num, by omega, by rw [HNX.out, Int.max_eq_right (by omega)]⟩
            case measure => simp [intOf]; omega
          · go_wp2_with fail
            go_round
            case rel => exact ⟨q + 1, by go_num, by omega, by rw [HNX.out, Int.max_eq_left (by omega)]⟩
            case measure => simp [intOf]; omega
        · obtain rfl : q = l.length := by omega
          rw [List.take_length]
          obtain ⟨z, hz⟩ : ∃ z, z = lv1 u l := ⟨_, rfl⟩
          rw [← hz] at HS ⊢
          have hsz := HB.out.size
          have hul := HLL.out
          have ho := HOWN.out
          rw [HLL.out] at ho
          have HO3 := Lib.hid (ho.alloc (.cells #[.int .i64 z] 3))
          clear ho
          have HR3 := Lib.hid (rdv_one2 wr (.int .i64 z) 3)
          have HB3 := Lib.hid (HB.out.alloc HB.out.size (.cells #[.int .i64 z] 3))
          clear hz
          go_wp2_with (at_builtin; refine wpList_append_rowv elem38 rfl (.tmp 45) (.tmp 47) rfl w.heap.size _ k _ rfl HO3.out (some ⟨wr.heap.size, 0, none⟩) 1 1 [.int .i64 z] rfl HR3.out (one_int2 _) (fun h => by cases h) (by unfold maxLen; omega) (by omega) (by rw [World.size_alloc]; omega) ?_; intro v3 w3 hown3 hb3)
          go_roundw
          case rel =>
            refine ⟨k + 1, by go_num, by omega, ?_, HB3.out.trans hb3⟩
            rw [HS.out, List.length_append, HLL.out]
            have e : valsZ (u ++ [z]) = valsZ u ++ [.int .i64 z] := by simp [valsZ]
            rw [e]
            exact hown3
          case measure => simp [intOf]; omega
    · obtain rfl : k = n := by omega
      have HN := Lib.hid hnum
      have HB := Lib.hid hbr
      clear hnum hbr hown
      go_wp2_with fail
      go_ret
      exact ⟨_, rfl, A1, c1, rfl, HN.out, HB.out⟩
end Go.Proofs.Ytgdkgoiagjjccaa
