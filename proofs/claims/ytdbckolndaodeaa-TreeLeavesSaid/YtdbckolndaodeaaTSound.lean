/- A good tree is sound. -/
import Derived.Test.YtdbckolndaodeaaTDeep
namespace Go.Proofs.Ytdbckolndaodeaa
set_option maxRecDepth 100000
open Go.RowKit

set_option maxHeartbeats 4000000 in
theorem sound_leaf {w : World} {m : MT 0} (h : Tu w 0 m) (lev : Nat) (h1 : lev = 1 ∨ 2 ≤ (root 0 m).is.length) : Calls Try.prog 32 #[.pointer (some ⟨(root 0 m).p, 0, none⟩), .int .i64 (lev : Int), .int .i64 (lev : Int)] w fun e w' => e = .returned (.bool true) ∧ w = w' := by
  have HLE := Lib.hid (leaf_any h.top)
  rw [h.leafb, show decide (0 = 0) = true from rfl] at HLE
  obtain ⟨A, c, e, _, _, _⟩ := h.top.items
  have c0 := h.top.c0
  have hf := h.few
  rw [e] at c0
  obtain ⟨n, hn⟩ : ∃ n, n = (root 0 m).is.length := ⟨_, rfl⟩
  obtain ⟨q, hq⟩ : ∃ q, q = (root 0 m).p := ⟨_, rfl⟩
  rw [← hn] at c0 hf h1
  rw [← hq] at c0 HLE ⊢
  have d5 : decide ((5 : Int) < (n : Int)) = false := decide_eq_false (by omega)
  clear h e hn hq hf
  rcases h1 with h1 | h1
  · subst h1
    go_enter Try.func32, Try.ntmps32
    go_wp2_with fail
    refine Calls.mono HLE.out ?_
    rintro e w2 ⟨rfl, rfl⟩
    go_wp2_with fail
    go_ret
    exact ⟨rfl, rfl⟩
  · have d2 : decide ((n : Int) < 2) = false := decide_eq_false (by omega)
    have HB := Lib.hid h1
    clear h1
    by_cases hv : 1 < lev
    · have d1 : decide ((1 : Int) < (lev : Int)) = true := decide_eq_true (by omega)
      have d1' : decide (1 < lev) = true := decide_eq_true hv
      clear hv
      go_enter Try.func32, Try.ntmps32
      go_wp2_with fail
      refine Calls.mono HLE.out ?_
      rintro e w2 ⟨rfl, rfl⟩
      go_wp2_with fail
      go_ret
      exact ⟨rfl, rfl⟩
    · have d1 : decide ((1 : Int) < (lev : Int)) = false := decide_eq_false (by omega)
      have d1' : decide (1 < lev) = false := decide_eq_false hv
      clear hv
      go_enter Try.func32, Try.ntmps32
      go_wp2_with fail
      refine Calls.mono HLE.out ?_
      rintro e w2 ⟨rfl, rfl⟩
      go_wp2_with fail
      go_ret
      exact ⟨rfl, rfl⟩
set_option maxHeartbeats 8000000 in
theorem sound_kids {w : World} {d : Nat} {m : MT (d + 1)} (h : Tu w (d + 1) m) (lev dp lv1 : Nat) (hlv : lv1 = lev + 1) (hlb : lev ≤ 2000) (h1 : lev = 1 ∨ (1 < lev ∧ 2 ≤ m.1.is.length)) (IH : ∀ (c : MT d) (w1 : World), c ∈ m.2 → Tu w1 d c → Calls Try.prog 32 #[.pointer (some ⟨(root d c).p, 0, none⟩), .int .i64 (lv1 : Int), .int .i64 (dp : Int)] w1 fun e w' => e = .returned (.bool true) ∧ Below w1.heap.size w1 w') :
    Calls Try.prog 32 #[.pointer (some ⟨m.1.p, 0, none⟩), .int .i64 (lev : Int), .int .i64 (dp : Int)] w fun e w' => e = .returned (.bool true) ∧ Below w.heap.size w w' := by
  have HLE := Lib.hid (leaf_any h.top)
  rw [h.leafb, show decide (d + 1 = 0) = false from rfl] at HLE
  change Hid (Calls Try.prog _ #[.pointer (some ⟨m.1.p, 0, none⟩)] w _) at HLE
  obtain ⟨A, c, e, _, _, _⟩ := h.top.items
  have c0 := h.top.c0
  have hf := h.few
  rw [e] at c0
  change m.1.is.length ≤ 5 at hf
  change w.cell? ⟨m.1.p, 0, none⟩ = some (.slice A m.1.is.length c) at c0
  have hpl := h.pslen
  have hkl := h.len
  obtain ⟨n, hn⟩ : ∃ n, n = m.1.is.length := ⟨_, rfl⟩
  obtain ⟨gu, cu, A2, cc2, e1, l1, k1, k2, k3⟩ := (show NodeIn w m.1 m.2 from h.node).cell (j := 0) (List.getElem?_eq_getElem (by omega))
  rw [hpl] at k1
  obtain ⟨q, hq⟩ : ∃ q, q = m.1.p := ⟨_, rfl⟩
  rw [← hn] at c0 hf h1 k1 hpl hkl
  rw [← hq] at c0 HLE k1 ⊢
  have d5 : decide ((5 : Int) < (n : Int)) = false := decide_eq_false (by omega)
  have f9 : IntKind.i64.wrap ((n : Int) + 1) = (n : Int) + 1 := by rw [IntKind.wrap_i64]; omega
  have f8 : ((n : Int) + 1 != (n : Int) + 1) = false := by simp
  have H := Lib.hid h
  have HN := Lib.hid (And.intro hn (And.intro hpl (And.intro hkl hf)))
  have HI := Lib.hid IH
  have HLV := Lib.hid (And.intro hlv hlb)
  have f7 : IntKind.i64.wrap ((lev : Int) + 1) = (lv1 : Int) := by rw [IntKind.wrap_i64]; omega
  have f7' : (lev : Int) + 1 = (lv1 : Int) := by omega
  have HQ := Lib.hid hq
  have HGU := Lib.hid e1
  clear h e hn hq hf hpl hkl IH hlv e1 k2 l1 k3
  have main : ∀ (bl : Bool), decide ((1 : Int) < (lev : Int)) = bl → decide (1 < lev) = bl → (bl = true → decide ((n : Int) < 2) = false ∧ decide (n < 2) = false) → Calls Try.prog 32 #[.pointer (some ⟨q, 0, none⟩), .int .i64 (lev : Int), .int .i64 (dp : Int)] w fun e w' => e = .returned (.bool true) ∧ Below w.heap.size w w' := fun bl d1 d1' d2 => by
    cases bl
    all_goals
      first | (obtain ⟨d3, d3'⟩ := d2 rfl; clear d2) | clear d2
      clear h1
      go_enter Try.func32, Try.ntmps32
      go_wp2_with fail
      refine Calls.mono HLE.out ?_
      rintro e w2 ⟨rfl, rfl⟩
      go_upto_region 5 with fail
      go_cut [43] from 32 to 43 (fun r wx => r = .bool false ∧ Below w.heap.size w wx)
      case first =>
        go_region_law (fail)
        all_goals (go_wp2_with fail; go_meet; exact ⟨rfl, below_drewI (Below.refl _ _)⟩)
      case rest =>
        obtain ⟨rfl, hb⟩ := hcut
        have HB := Lib.hid hb
        have k1' := (hb.cell (World.block_lt_of_cell? _ _ k1)).trans k1
        clear hb k1 c0 d5 f9 f8
        go_wp2_with fail
        clear k1'
        go_loopg [8, 49, 50, 51, 52, 53, 54, 55, 56, 57, 58, 59] (n + 1) (fun k _ ix _ _ _ _ _ _ _ _ _ _ wr => ∃ z : Nat, ix = .int .i64 (z : Int) ∧ z + k = n + 1 ∧ Below w.heap.size w wr)
        case atStart => exact ⟨0, rfl, by omega, HB.out⟩
        case round =>
          obtain ⟨z, rfl, hz, hb⟩ := hrel
          have HB2 := Lib.hid hb
          clear hb
          cases gk with
          | zero =>
            obtain rfl : z = n + 1 := by omega
            clear hz
            have e0 : decide ((n : Int) + 1 < (n : Int) + 1) = false := decide_eq_false (by omega)
            go_wp2_with fail
            go_ret
            exact ⟨rfl, HB2.out⟩
          | succ gk =>
            have hlt : z < m.2.length := by have := HN.out.2.2.1; omega
            obtain ⟨c, hc⟩ : ∃ c, m.2[z]? = some c := ⟨_, List.getElem?_eq_getElem hlt⟩
            have hT := H.out.below HB2.out
            obtain ⟨gu', cu', A2', cc2', e1', l1', u1, u2, u3⟩ := (show NodeIn wr m.1 m.2 from hT.node).cell hc
            obtain ⟨rfl, rfl⟩ := same_n HGU.out e1'
            have hzl : z < n + 1 := by omega
            have hzb : z ≤ 6 := by have := HN.out.2.2.2; omega
            have HIC := Lib.hid (HI.out c wr (List.mem_of_getElem? hc) (hT.kid (List.mem_of_getElem? hc)))
            have HZ := Lib.hid hz
            have e0 : decide ((z : Int) < (n : Int) + 1) = true := decide_eq_true (by omega)
            have e2 : (z : Int) < (n : Int) + 1 := by omega
            clear hlt hc hT e1' l1' u1 u3 hz
            go_wp2_with fail
            refine Calls.mono HIC.out ?_
            rintro e w3 ⟨rfl, hb3⟩
            go_wp2_with fail
            go_roundg gk
            case measure => omega
            case rel => exact ⟨z + 1, by go_num, by have := HZ.out; omega, HB2.out.trans (hb3.mono HB2.out.size)⟩
  rcases h1 with h1 | ⟨h1, h2⟩
  · exact main false (decide_eq_false (by omega)) (decide_eq_false (by omega)) (fun e => by cases e)
  · exact main true (decide_eq_true (by omega)) (decide_eq_true (by omega)) (fun _ => ⟨decide_eq_false (by omega), decide_eq_false (by omega)⟩)
theorem sound_node : ∀ (d : Nat) (m : MT d) (w : World) (lev dp : Nat), Tu w d m → lev + d = dp → dp ≤ 1000 → (lev = 1 ∨ (1 < lev ∧ 2 ≤ (root d m).is.length)) →
    Calls Try.prog 32 #[.pointer (some ⟨(root d m).p, 0, none⟩), .int .i64 (lev : Int), .int .i64 (dp : Int)] w fun e w' => e = .returned (.bool true) ∧ Below w.heap.size w w'
  | 0, m, w, lev, dp, h, hd, hb, h1 => by
    obtain rfl : lev = dp := by omega
    refine Calls.mono (sound_leaf h lev (h1.imp id fun e => e.2)) ?_
    rintro e w' ⟨rfl, rfl⟩
    exact ⟨rfl, Below.refl _ _⟩
  | d + 1, m, w, lev, dp, h, hd, hb, h1 => by
    refine sound_kids h lev dp (lev + 1) rfl (by omega) h1 fun c w1 hc hT => ?_
    obtain ⟨_, h2, _⟩ := h.ok.2 (trOf d c) (List.mem_map.2 ⟨c, hc, rfl⟩)
    rw [its_tr] at h2
    exact sound_node d c w1 (lev + 1) dp hT (by omega) hb (.inr ⟨by rcases h1 with e | e <;> omega, h2⟩)
end Go.Proofs.Ytdbckolndaodeaa
