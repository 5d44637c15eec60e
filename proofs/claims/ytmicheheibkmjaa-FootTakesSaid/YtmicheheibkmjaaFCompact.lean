/- The library's Compact at keys. -/
import Derived.Test.YtmicheheibkmjaaFOwn
import Derived.Test.YtmicheheibkmjaaFJoinM
import Derived.Deep.CutRange
import Derived.Deep.RegionHeld3
namespace Go.Proofs.Ytmicheheibkmjaa
set_option maxRecDepth 100000
open Go.RowKit

theorem neq_key (w : World) (x y : K) : (binOp .neq 24 x.val y.val).run Try.prog w = .ok (.bool (!decide (x = y))) w := by
  have h := run_key 9998 w x y
  unfold K.val at h ⊢
  rw [run_neq_struct, show (10000 : Nat) = 9998 + 2 from rfl, h]
  rfl
/-- An own row of keys while it is turned. -/
structure CP (w : World) (B g n c : Nat) (r : List K) (W : World) : Prop where
  own : W.ownsRow B 24 2 (.slice (some ⟨g, 0, none⟩) n c) n (rowV K.vals r)
  grown : w.grownBy W (some g)
  len : r.length = n
theorem CP.drewN {w : World} {B g n c : Nat} {r : List K} {W : World} (h : CP w B g n c r W) (q : Nat) : CP w B g n c r (W.drewN q) :=
  ⟨h.own, grown_trans h.grown (grown_drewN _ _ _), h.len⟩
theorem CP.drew {w : World} {B g n c : Nat} {r : List K} {W : World} (h : CP w B g n c r W) : CP w B g n c r W.drew := h.drewN 1
theorem CP.cells {w : World} {B g n c : Nat} {r : List K} {W : World} (h : CP w B g n c r W) (i : Nat) (hi : i < r.length) :
    W.cell? ⟨g, i * 2, none⟩ = some (.int .i64 r[i].t) ∧ W.cell? ⟨g, i * 2 + 1, none⟩ = some (.int .i64 r[i].k) := by
  have h0 := rowV_get K.vals 2 K.len r i hi 0 (by decide)
  have h1 := rowV_get K.vals 2 K.len r i hi 1 (by decide)
  exact ⟨own_cell h.own _ _ h0, own_cell h.own _ _ h1⟩
theorem CP.set {w : World} {B g n c : Nat} {r : List K} {W : World} (h : CP w B g n c r W) (i : Nat) (hi : i < n) (y : K) :
    CP w B g n c (r.set i y) ((W.setCell ⟨g, i * 2, none⟩ (.int .i64 y.t)).setCell ⟨g, i * 2 + 1, none⟩ (.int .i64 y.k)) := by
  obtain ⟨h1, h2⟩ := own_setCells y.vals (i * 2) h.own
  rw [rowV_set K.len (by decide) r i (by rw [h.len]; exact hi) y] at h1
  exact ⟨h1, grown_trans h.grown h2, by rw [List.length_set]; exact h.len⟩
set_option maxHeartbeats 2000000 in
theorem compact_any (g n c B : Nat) (l : List K) (w : World) (h : w.ownsRow B 24 2 (.slice (some ⟨g, 0, none⟩) n c) n (rowV K.vals l)) (hl : l.length = n) (hn : n ≤ 1000000) :
    Calls Try.prog 67 #[.slice (some ⟨g, 0, none⟩) n c] w fun e w' => ∃ m : Nat, e = .returned (.slice (some ⟨g, 0, none⟩) m c) ∧ (dedup l).length = m ∧ w'.ownsRow B 24 2 (.slice (some ⟨g, 0, none⟩) m c) m (rowV K.vals (dedup l)) ∧ w.grownBy w' (some g) := by
  have HC := Lib.hid (show CP w B g n c l w from ⟨h, grown_refl _ _, hl⟩)
  have HL := Lib.hid hl
  have HLT := Lib.hid (own_lt h)
  clear h hl
  by_cases hs : n < 2
  · have HD := Lib.hid (show dedup l = l by
      have := dedup_none l l.length (Nat.le_refl _) (fun j h1 h2 h3 => by have := HL.out; omega)
      rwa [List.take_length] at this)
    go_enter Try.func67, Try.ntmps67
    go_wp2_with fail
    go_ret
    exact ⟨n, rfl, by rw [HD.out]; exact HL.out, by rw [HD.out]; exact HC.out.own, grown_refl _ _⟩
  · go_enter Try.func67, Try.ntmps67
    go_wp2_with fail
    go_loopw [3] (fun i wr => ∃ k : Nat, i = .int .i64 (k : Int) ∧ 1 ≤ k ∧ k ≤ n ∧ Hid (∀ j (hj : j < l.length), 1 ≤ j → j < k → l[j] ≠ l[j - 1]) ∧ CP w B g n c l wr) (fun i _ => n - (intOf i).toNat)
    case atStart => exact ⟨1, rfl, by omega, by omega, fun j _ h1 h2 => by omega, HC.out⟩
    case round =>
      obtain ⟨k, rfl, hk1, hk, hno, hcp⟩ := hrel
      have HH := Lib.hid hcp
      clear hcp
      by_cases hlt : k < n
      · have hkl : k < l.length := by rw [HL.out]; exact hlt
        obtain ⟨k0, k1⟩ := HH.out.cells k hkl
        obtain ⟨q0, q1⟩ := HH.out.cells (k - 1) (by omega)
        have heq0 := fun w => eql_key w l[k] l[k - 1]
        have HNK := Lib.hid (show l[k] ≠ l[k - 1] → ∀ j (hj : j < l.length), 1 ≤ j → j < k + 1 → l[j] ≠ l[j - 1] from fun h j hj h1 hj2 => by
          by_cases e : j = k
          · subst e; exact h
          · exact hno.out j hj h1 (by omega))
        have HD0 := Lib.hid (show l[k] = l[k - 1] → dedup (l.take (k + 1)) = l.take k from fun h => by
          rw [dedup_take l k hk1 hkl, if_pos h, List.append_nil, dedup_none l k (Nat.le_of_lt hkl) (fun j h1 h2 h3 => hno.out j h3 h1 h2)])
        obtain ⟨x, hx⟩ : ∃ x, x = l[k] := ⟨_, rfl⟩
        obtain ⟨y, hy⟩ : ∃ y, y = l[k - 1] := ⟨_, rfl⟩
        rw [← hx] at k0 k1 heq0 HNK HD0
        rw [← hy] at q0 q1 heq0 HNK HD0
        unfold K.val at heq0
        clear hx hy hno
        by_cases he : x = y
        · rw [decide_eq_true he] at heq0
          have HD := Lib.hid (HD0.out he)
          have hck : ¬ c = k := by have := HLT.out.2.2.1; omega
          clear he HD0 HNK
          go_wp2_with fail
          go_quiet (fail)
          go_wp2_with fail
          rename World => wo
          clear k0 k1 q0 q1 heq0
          go_loopw [3, 5] (fun a3 a5 wx => ∃ (kk k2 : Nat) (r : List K), a3 = .int .i64 (kk : Int) ∧ a5 = .int .i64 (k2 : Int) ∧ 1 ≤ k2 ∧ k2 ≤ n - k ∧ kk + 1 ≤ k + k2 ∧ Hid (r.take kk = dedup (l.take (k + k2))) ∧ Hid (∀ j, k + k2 ≤ j + 1 → r[j]? = l[j]?) ∧ CP w B g n c r wx) (fun _ a5 _ => n - (intOf a5).toNat)
          case atStart => exact ⟨k, 1, l, rfl, rfl, by omega, by omega, by omega, HD.out.symm, fun j _ => rfl, HH.out.drewN _⟩
          case round =>
            obtain ⟨kk, k2, r, rfl, rfl, h21, h22, hkk, ht, hr, hcp⟩ := hrel
            have HX := Lib.hid hcp
            clear hcp
            by_cases hlt2 : k2 < n - k
            · have hil : k + k2 < l.length := by rw [HL.out]; omega
              have hir : k + k2 < r.length := by rw [HX.out.len]; omega
              have e1 : r[k + k2] = l[k + k2] := by
                have := hr.out (k + k2) (by omega)
                rw [List.getElem?_eq_getElem hir, List.getElem?_eq_getElem hil] at this
                exact Option.some.inj this
              have e2 : r[k + k2 - 1]'(by omega) = l[k + k2 - 1]'(by omega) := by
                have := hr.out (k + k2 - 1) (by omega)
                rw [List.getElem?_eq_getElem (by omega), List.getElem?_eq_getElem (by omega)] at this
                exact Option.some.inj this
              obtain ⟨x0, x1⟩ := HX.out.cells (k + k2) hir
              obtain ⟨y0, y1⟩ := HX.out.cells (k + k2 - 1) (by omega)
              have hne0 := fun w => neq_key w l[k + k2] (l[k + k2 - 1]'(by omega))
              have HT := Lib.hid (dedup_take l (k + k2) (by omega) hil)
              rw [e1] at x0 x1
              rw [e2] at y0 y1
              obtain ⟨u, hu⟩ : ∃ u, u = l[k + k2] := ⟨_, rfl⟩
              obtain ⟨v, hv⟩ : ∃ v, v = l[k + k2 - 1]'(by omega) := ⟨_, rfl⟩
              have HU := Lib.hid hu
              rw [← hu] at x0 x1 hne0 HT
              rw [← hv] at y0 y1 hne0 HT
              unfold K.val at hne0
              have z0 : (k + k2 - 1) * 2 = k * 2 + (k2 - 1) * 2 := by omega
              have z1 : (k + k2) * 2 = k * 2 + k2 * 2 := by omega
              rw [z0] at y0 y1
              rw [z1] at x0 x1
              obtain ⟨d0, d1⟩ := HX.out.cells kk (by omega)
              obtain ⟨od, hod⟩ : ∃ od, od = r[kk]'(by omega) := ⟨_, rfl⟩
              rw [← hod] at d0 d1
              clear hod
              have f0 := own_frozen HX.out.own (kk * 2)
              have f1 := own_frozen HX.out.own (kk * 2 + 1)
              have ZH := Lib.hid (And.intro z0 z1)
              clear hu hv e1 e2 z0 z1
              by_cases he : u = v
              · rw [decide_eq_true he] at hne0
                have HE := Lib.hid he
                clear he
                go_wp2_with fail
                go_quiet (fail)
                go_wp2_with fail
                go_roundw
                case rel =>
                  refine ⟨kk, k2 + 1, r, rfl, by go_num, by omega, by omega, by omega, ?_, fun j hj => hr.out j (by omega), HX.out.drewN _⟩
                  show r.take kk = dedup (l.take (k + (k2 + 1)))
                  rw [ht.out, ← Nat.add_assoc, HT.out, if_pos HE.out, List.append_nil]
                case measure => simp [intOf]; omega
              · rw [decide_eq_false he] at hne0
                have HE := Lib.hid he
                clear he
                go_wp2_with fail
                go_quiet (fail)
                go_wp2_with fail
                go_roundw
                case rel =>
                  refine ⟨kk + 1, k2 + 1, r.set kk u, by go_num, by go_num, by omega, by omega, by omega, ?_, ?_, (HX.out.drewN _).set kk (by omega) u⟩
                  · show (r.set kk u).take (kk + 1) = dedup (l.take (k + (k2 + 1)))
                    have e : (r.set kk u).take (kk + 1) = r.take kk ++ [u] := by
                      have hkr : kk < r.length := by rw [HX.out.len]; omega
                      rw [List.take_succ_eq_append_getElem (by rw [List.length_set]; exact hkr), List.getElem_set_self, List.take_set_of_le (Nat.le_refl _)]
                    rw [e, ht.out, ← Nat.add_assoc, HT.out, if_neg HE.out]
                  · intro j hj
                    rw [List.getElem?_set_ne (by omega)]
                    exact hr.out j (by omega)
                case measure => simp [intOf]; omega
            · have hck2 : ¬ c = kk := by have := HLT.out.2.2.1; omega
              have hkn : kk ≤ n := by omega
              have hkc : kk ≤ c := by have := HLT.out.2.2.1; omega
              have HE := Lib.hid (show r.take kk = dedup l by
                have e : k + k2 = n := by omega
                rw [ht.out, e, ← HL.out, List.take_length])
              have HEL := Lib.hid (show (dedup l).length = kk by rw [← HE.out, List.length_take, HX.out.len]; omega)
              clear hr
              obtain ⟨w9, hrun, ho9, hg9⟩ := clear_own (P := Try.prog) (t := 27) (e := 24) Try.underlying27 Try.zeroValue24 (by rfl) (by intro v hv; simp [Value.cells] at hv; subst hv; rfl) (by decide) (m := kk) (c' := c - kk) 0 HX.out.own hkn
              have hcl : ∀ ty, (Builtin.clear_ #[27] ty #[.slice (some ⟨g, kk * 2, none⟩) (n - kk) (c - kk)]).run Try.prog wr = .ok (.tuple #[]) w9 := fun ty => hrun
              have HO9 := Lib.hid ho9
              have HG9 := Lib.hid hg9
              clear ho9 hg9 hrun
              go_wp2_with fail
              go_ret
              refine ⟨kk, rfl, HEL.out, ?_, grown_trans HX.out.grown HG9.out⟩
              rw [← HE.out, ← rowV_take K.len]
              exact HO9.out
        · rw [decide_eq_false he] at heq0
          have HN2 := Lib.hid (HNK.out he)
          clear he HD0 HNK
          go_wp2_with fail
          go_quiet (fail)
          go_wp2_with fail
          go_roundw
          case rel => exact ⟨k + 1, by go_num, by omega, by omega, HN2.out, HH.out.drewN _⟩
          case measure => simp [intOf]; omega
      · obtain rfl : k = n := by omega
        have HD := Lib.hid (show dedup l = l by
          have := dedup_none l l.length (Nat.le_refl _) (fun j h1 h2 h3 => hno.out j h3 h1 (by have := HL.out; omega))
          rwa [List.take_length] at this)
        go_wp2_with fail
        go_ret
        exact ⟨k, rfl, by rw [HD.out]; exact HL.out, by rw [HD.out]; exact HH.out.own, HH.out.grown⟩
end Go.Proofs.Ytmicheheibkmjaa
