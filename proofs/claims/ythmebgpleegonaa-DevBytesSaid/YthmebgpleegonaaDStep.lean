/- The power's step; what a set tells of itself. -/
import Derived.Test.YthmebgpleegonaaDSet
namespace Go.Proofs.Ythmebgpleegonaa
set_option maxRecDepth 100000
open Go.RowKit

theorem box_set {W : World} {b : Nat} {c : Array Value} {t : TypeId} (h : W.heap[b]? = some (.cells c t (0, 0))) (j : Nat) (v : Value) : (W.setCell ⟨b, j, none⟩ v).heap[b]? = some (.cells (c.setIfInBounds j v) t (0, 0)) := by
  unfold World.setCell
  simp only [Array.getElem?_modify, h]
  simp
theorem type_ne {w : World} {B e size n b : Nat} {v : Value} {xs : List Value} {c : Array Value} {t : TypeId} (h : w.ownsRow B e size v n xs) (hb : w.heap[b]? = some (.cells c t (0, 0))) (he : e ≠ t) : v.ownBlock ≠ some b := by
  intro hk
  rcases h.2 with ⟨rfl, _⟩ | ⟨g, cap, cur, rfl, _, hg', _⟩
  · cases hk
  · injection hk with hk
    subst hk
    rw [hb] at hg'
    injection hg' with hg'
    injection hg' with _ a2
    exact he a2.symm
theorem map_ne {w : World} {b m n : Nat} {f : Int → Sx} {c : Array Value} {t : TypeId} (h : MapS w m n f) (hb : w.heap[b]? = some (.cells c t (0, 0))) : m ≠ b := by
  intro e
  subst e
  obtain ⟨D, ⟨es, clock, h1, _⟩, _⟩ := h
  rw [hb] at h1
  injection h1 with h1
  cases h1
theorem map_row {w : World} {m n : Nat} {f : Int → Sx} {B e size k : Nat} {v : Value} {xs : List Value} (h : MapS w m n f) (ho : w.ownsRow B e size v k xs) : v.ownBlock ≠ some m := by
  intro hk
  rcases ho.2 with ⟨rfl, _⟩ | ⟨g, cap, cur, rfl, _, hg', _⟩
  · cases hk
  · injection hk with hk
    subst hk
    obtain ⟨D, ⟨es, clock, h1, _⟩, _⟩ := h
    have hg'' : w.heap[g]? = some (.cells cur e (0, 0)) := hg'
    rw [h1] at hg''
    injection hg'' with hg''
    cases hg''
section
variable {w w' : World} {F : Nat → Prop} {g : Nat} {p p' : Pw} {v : Value} {L : List DM} {d : DM}
/-- A cell of the power set. -/
theorem SetM.pset (h : SetM w F g p v L) (j : Nat) (u : Value) (hx : (p.arr v).setIfInBounds j u = p'.arr v) : SetM (w.setCell ⟨g, j, none⟩ u) F g p' v L ∧ Chg w (w.setCell ⟨g, j, none⟩ u) F F := by
  have keep : ∀ k, k ≠ g → (w.setCell ⟨g, j, none⟩ u).heap[k]? = w.heap[k]? := fun k hk => Deep.blk_setCell_other w ⟨g, j, none⟩ u k hk
  refine ⟨⟨h.Fg, fun k hk => by rw [World.size_setCell]; exact h.Flt k hk, by rw [box_set h.block, hx], own_same h.own fun q e => keep q (fun e2 => type_ne h.own h.block (by decide) (by rw [e, e2])), h.Fv, fun i hi => ?_, h.apart⟩,
    ⟨rfl, rfl, rfl, by rw [World.size_setCell]; exact Nat.le_refl _, fun k _ hn => keep k (fun e => hn (by rw [e]; exact h.Fg)), fun _ e => .inl e⟩⟩
  have hd := h.each i hi
  exact ⟨hd.map.keep (keep _ (map_ne hd.map h.block)), hd.Fm, own_same hd.waits fun q e => keep q (fun e2 => type_ne hd.waits h.block (by decide) (by rw [e, e2])), hd.Fw⟩
end
def stepP (p : Pw) : Bool × Pw :=
  if p.gone then (false, p) else if p.ia && decide (p.armed = 0) then (false, { p with gone := true }) else (true, { p with steps := p.steps + 1, armed := if p.ia then p.armed - 1 else p.armed })
set_option maxHeartbeats 1000000 in
theorem step_any {w : World} {F : Nat → Prop} {g : Nat} {p : Pw} {v : Value} {L : List DM} (h : SetM w F g p v L) (hs : p.steps ≤ 1000000000) (ha : p.armed ≤ 9223372036854775807) :
    Calls Try.prog 35 #[.pointer (some ⟨g, 0, none⟩)] w fun e w' => e = .returned (.bool (stepP p).1) ∧ SetM w' F g (stepP p).2 v L ∧ Chg w w' F F := by
  obtain ⟨c0, c1, c2, c3, _⟩ := h.c
  have f0 := h.fr 0
  have f1 := h.fr 1
  have f3 := h.fr 3
  have HH := Lib.hid h
  obtain ⟨st, ar, ia, gn⟩ := p
  dsimp only at c0 c1 c2 c3 hs ha
  clear h
  cases gn with
  | true =>
    go_enter Try.func35, Try.ntmps35
    go_wp2_with fail
    go_ret
    exact ⟨rfl, HH.out, Chg.refl _ _⟩
  | false =>
    cases ia with
    | true =>
      by_cases h0 : ar = 0
      · subst h0
        have h3 := HH.out.pset (p' := ⟨st, 0, true, true⟩) 3 (.bool true) rfl
        have H3 := Lib.hid h3
        clear h3
        go_enter Try.func35, Try.ntmps35
        go_wp2_with fail
        go_ret
        exact ⟨rfl, H3.out.1, H3.out.2⟩
      · have hp : 0 < ar := Nat.pos_of_ne_zero h0
        have hne : ((ar : Int) == 0) = false := by rw [beq_eq_false_iff_ne]; omega
        have hsub : (ar : Int) - 1 = ((ar - 1 : Nat) : Int) := by omega
        have HS := Lib.hid (show stepP ⟨st, ar, true, false⟩ = (true, ⟨st + 1, ar - 1, true, false⟩) by simp [stepP, h0])
        have h1 := HH.out.pset (p' := ⟨st, ar - 1, true, false⟩) 1 (.int .i64 ((ar - 1 : Nat) : Int)) rfl
        have h2 := h1.1.pset (p' := ⟨st + 1, ar - 1, true, false⟩) 0 (.int .i64 ((st + 1 : Nat) : Int)) rfl
        have H2 := Lib.hid (show SetM _ F g ⟨st + 1, ar - 1, true, false⟩ v L ∧ Chg w _ F F from ⟨h2.1, h1.2.trans h2.2⟩)
        clear h1 h2 h0
        obtain ⟨A, hA⟩ : ∃ A, A = ar - 1 := ⟨_, rfl⟩
        rw [← hA] at hsub H2 HS
        clear hA
        go_enter Try.func35, Try.ntmps35
        go_wp2_with fail
        go_ret
        rw [HS.out]
        exact ⟨rfl, H2.out.1, H2.out.2⟩
    | false =>
      have HS := Lib.hid (show stepP ⟨st, ar, false, false⟩ = (true, ⟨st + 1, ar, false, false⟩) by simp [stepP])
      have h2 := HH.out.pset (p' := ⟨st + 1, ar, false, false⟩) 0 (.int .i64 ((st + 1 : Nat) : Int)) rfl
      have H2 := Lib.hid h2
      clear h2
      go_enter Try.func35, Try.ntmps35
      go_wp2_with fail
      go_ret
      rw [HS.out]
      exact ⟨rfl, H2.out.1, H2.out.2⟩
section
variable {w : World} {F : Nat → Prop} {g : Nat} {p : Pw} {v : Value} {L : List DM}
set_option maxHeartbeats 400000 in
theorem many_any (h : SetM w F g p v L) (_ : L.length ≤ 1000) : Calls Try.prog 13 #[.pointer (some ⟨g, 0, none⟩)] w fun e w' => e = .returned (.int .i64 (L.length : Int)) ∧ w = w' := by
  obtain ⟨_, _, _, _, c4⟩ := h.c
  obtain ⟨A, c, rfl, hle, _⟩ := h.slice
  clear h
  go_enter Try.func13, Try.ntmps13
  go_wp2_with fail
  go_ret
  exact ⟨rfl, rfl⟩
set_option maxHeartbeats 400000 in
theorem steps_any (h : SetM w F g p v L) : Calls Try.prog 26 #[.pointer (some ⟨g, 0, none⟩)] w fun e w' => e = .returned (.int .i64 (p.steps : Int)) ∧ w = w' := by
  obtain ⟨c0, _, _, _, _⟩ := h.c
  clear h
  go_enter Try.func26, Try.ntmps26
  go_wp2_with fail
  go_ret
  exact ⟨rfl, rfl⟩
set_option maxHeartbeats 400000 in
theorem down_any (h : SetM w F g p v L) : Calls Try.prog 24 #[.pointer (some ⟨g, 0, none⟩)] w fun e w' => e = .returned (.bool p.gone) ∧ w = w' := by
  obtain ⟨_, _, _, c3, _⟩ := h.c
  obtain ⟨gn, hg⟩ : ∃ gn, gn = p.gone := ⟨_, rfl⟩
  rw [← hg] at c3 ⊢
  clear h hg
  go_enter Try.func24, Try.ntmps24
  go_wp2_with fail
  go_ret
  exact ⟨rfl, rfl⟩
/-- How many writes of a device wait. -/
def waitN (L : List Dk) (d : Int) : Nat := if hasB L d 0 then ((L[d.toNat]?).map fun k => k.waits.length).getD 0 else 0
set_option maxHeartbeats 400000 in
theorem waiting_any (h : SetM w F g p v L) (j : Nat) (hj : j < L.length) (hl : L.length ≤ 1000) (hz : 0 < L[j].dk.size) : Calls Try.prog 23 #[.pointer (some ⟨g, 0, none⟩), .int .i64 (j : Int)] w fun e w' => e = .returned (.int .i64 (L[j].dk.waits.length : Int)) ∧ w = w' := by
  have hh := has_any h (j : Int) 0 hl
  rw [hasB_at hj, decide_eq_true (show (0 : Int) ≤ 0 by omega), decide_eq_true (show (0 : Int) < (L[j].dk.size : Int) by omega)] at hh
  have HH := Lib.hid hh
  obtain ⟨_, _, _, _, c4⟩ := h.c
  obtain ⟨A, c, rfl, hle, hc⟩ := h.slice
  obtain ⟨b, rfl, _, _, _, _, _, c2⟩ := hc j hj
  have hw := (h.each j hj).waits
  obtain ⟨n, hn⟩ : ∃ n, n = L[j].dk.waits.length := ⟨_, rfl⟩
  obtain ⟨vw, hvw⟩ : ∃ x, x = L[j].v := ⟨_, rfl⟩
  rw [← hn, ← hvw] at hw
  rw [← hvw] at c2
  rw [← hn]
  obtain ⟨Aw, cw, rfl, _, _, hcw⟩ := rdv_own hw
  obtain ⟨N, hN⟩ : ∃ N, N = L.length := ⟨_, rfl⟩
  rw [← hN] at c4 hle hj hl
  clear hc h hh hw hn hvw hN hz
  go_enter Try.func23, Try.ntmps23
  go_wp2_with fail
  refine Calls.mono HH.out ?_
  rintro e w1 ⟨rfl, rfl⟩
  go_wp2_with fail
  go_ret
  exact ⟨rfl, rfl⟩

set_option maxHeartbeats 400000 in
theorem arm_any (h : SetM w F g p v L) (n : Nat) (_ : n ≤ 9223372036854775807) : Calls Try.prog 25 #[.pointer (some ⟨g, 0, none⟩), .int .i64 (n : Int)] w fun e w' => e = .returned .nilIface ∧ SetM w' F g { p with armed := n, ia := true } v L ∧ Chg w w' F F := by
  obtain ⟨_, c1, c2, _, _⟩ := h.c
  have f1 := h.fr 1
  have f2 := h.fr 2
  obtain ⟨st, ar, ia, gn⟩ := p
  have h1 := h.pset (p' := ⟨st, n, ia, gn⟩) 1 (.int .i64 (n : Int)) rfl
  have h2 := h1.1.pset (p' := ⟨st, n, true, gn⟩) 2 (.bool true) rfl
  have H2 := Lib.hid (show SetM _ F g ⟨st, n, true, gn⟩ v L ∧ Chg w _ F F from ⟨h2.1, h1.2.trans h2.2⟩)
  clear h h1 h2
  go_enter Try.func25, Try.ntmps25
  go_wp2_with fail
  go_ret
  exact ⟨rfl, H2.out.1, H2.out.2⟩
end
end Go.Proofs.Ythmebgpleegonaa
