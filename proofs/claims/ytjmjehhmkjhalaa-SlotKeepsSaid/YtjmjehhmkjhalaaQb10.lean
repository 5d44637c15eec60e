/- DSet, DStep: put together. -/
import Derived.Test.YtjmjehhmkjhalaaQb01
/- A set of devices in memory. -/
namespace Go.Proofs.Ytjmjehhmkjhalaa
set_option maxRecDepth 100000
open Go.RowKit

/-- A device. -/
structure Dk where
  size : Nat
  sure : Int → Sx
  waits : List Wx
/-- The power. -/
structure Pw where
  steps : Nat
  armed : Nat
  ia : Bool
  gone : Bool
/-- A device in memory: its map's block, a bound on its entries, its writes' slice. -/
structure DM where
  dk : Dk
  m : Nat
  n : Nat
  v : Value
def DM.vals (d : DM) : List Value := [.int .i64 (d.dk.size : Int), .map (some d.m), d.v]
theorem DM.vlen (d : DM) : d.vals.length = 3 := rfl
def Pw.arr (p : Pw) (v : Value) : Array Value := #[.int .i64 (p.steps : Int), .int .i64 (p.armed : Int), .bool p.ia, .bool p.gone, v]
/-- A device's parts, and to which blocks they belong. -/
structure DMok (w : World) (F : Nat → Prop) (d : DM) : Prop where
  map : MapS w d.m d.n d.dk.sure
  Fm : F d.m
  waits : w.ownsRow 0 190 65 d.v d.dk.waits.length (rowV Wx.vals d.dk.waits)
  Fw : ∀ k, d.v.ownBlock = some k → F k
structure SetM (w : World) (F : Nat → Prop) (g : Nat) (p : Pw) (v : Value) (L : List DM) : Prop where
  Fg : F g
  Flt : ∀ k, F k → k < w.heap.size
  block : w.heap[g]? = some (.cells (p.arr v) 147 (0, 0))
  own : w.ownsRow 0 151 3 v L.length (rowV DM.vals L)
  Fv : ∀ k, v.ownBlock = some k → F k
  each : ∀ j (h : j < L.length), DMok w F L[j]
  apart : ∀ i j (hi : i < L.length) (hj : j < L.length), i ≠ j → L[i].m ≠ L[j].m ∧ ∀ k, L[i].v.ownBlock = some k → L[j].v.ownBlock ≠ some k
theorem own_same {w w' : World} {B e size n : Nat} {v : Value} {xs : List Value} (h : w.ownsRow B e size v n xs) (hk : ∀ q, v.ownBlock = some q → w'.heap[q]? = w.heap[q]?) : w'.ownsRow B e size v n xs := by
  refine ⟨h.1, ?_⟩
  rcases h.2 with h0 | ⟨g, cap, cur, rfl, h1, h2, h3⟩
  · exact .inl h0
  · exact .inr ⟨g, cap, cur, rfl, h1, (hk g rfl).trans h2, h3⟩
section
variable {w w' : World} {F F' : Nat → Prop} {g : Nat} {p : Pw} {v : Value} {L : List DM} {d : DM}
theorem DMok.keep (h : DMok w F d) (hlt : ∀ k, F k → k < w.heap.size) (hk : ∀ k, F k → k < w.heap.size → w'.heap[k]? = w.heap[k]?) : DMok w' F d :=
  ⟨h.map.keep (hk _ h.Fm (hlt _ h.Fm)), h.Fm, own_same h.waits fun q e => hk q (h.Fw q e) (hlt q (h.Fw q e)), h.Fw⟩
/-- It stands where its blocks stand. -/
theorem SetM.keep (h : SetM w F g p v L) (hs : w.heap.size ≤ w'.heap.size) (hk : ∀ k, F k → k < w.heap.size → w'.heap[k]? = w.heap[k]?) : SetM w' F g p v L :=
  ⟨h.Fg, fun k e => Nat.lt_of_lt_of_le (h.Flt k e) hs, (hk g h.Fg (h.Flt g h.Fg)).trans h.block, own_same h.own fun q e => hk q (h.Fv q e) (h.Flt q (h.Fv q e)), h.Fv, fun j hj => (h.each j hj).keep h.Flt hk, h.apart⟩
theorem SetM.below (h : SetM w F g p v L) (hb : Below w.heap.size w w') : SetM w' F g p v L := h.keep hb.size fun k _ hk => hb.block k hk
theorem SetM.glt (h : SetM w F g p v L) : g < w.heap.size := h.Flt g h.Fg
theorem SetM.c (h : SetM w F g p v L) : w.cell? ⟨g, 0, none⟩ = some (.int .i64 (p.steps : Int)) ∧ w.cell? ⟨g, 1, none⟩ = some (.int .i64 (p.armed : Int)) ∧ w.cell? ⟨g, 2, none⟩ = some (.bool p.ia) ∧ w.cell? ⟨g, 3, none⟩ = some (.bool p.gone) ∧ w.cell? ⟨g, 4, none⟩ = some v :=
  ⟨(cell_of_row w g 0 _ _ (0, 0) h.block).trans rfl, (cell_of_row w g 1 _ _ (0, 0) h.block).trans rfl, (cell_of_row w g 2 _ _ (0, 0) h.block).trans rfl, (cell_of_row w g 3 _ _ (0, 0) h.block).trans rfl, (cell_of_row w g 4 _ _ (0, 0) h.block).trans rfl⟩
theorem frozen_at {W : World} {b : Nat} {c : Array Value} {t : TypeId} (h : W.heap[b]? = some (.cells c t (0, 0))) (j : Nat) : W.frozen? ⟨b, j, none⟩ = false := by
  unfold World.frozen?
  simp [h]
theorem SetM.fr (h : SetM w F g p v L) (j : Nat) : w.frozen? ⟨g, j, none⟩ = false := frozen_at h.block j
/-- The devices' slice, and its cells. -/
theorem SetM.slice (h : SetM w F g p v L) : ∃ A c, v = .slice A L.length c ∧ L.length ≤ c ∧ ∀ j (hj : j < L.length), ∃ b, A = some ⟨b, 0, none⟩ ∧ F b ∧ b ≠ g ∧ (∀ o, w.frozen? ⟨b, o, none⟩ = false) ∧
    w.cell? ⟨b, j * 3, none⟩ = some (.int .i64 (L[j].dk.size : Int)) ∧ w.cell? ⟨b, j * 3 + 1, none⟩ = some (.map (some L[j].m)) ∧ w.cell? ⟨b, j * 3 + 2, none⟩ = some L[j].v := by
  rcases h.own.2 with ⟨rfl, h0⟩ | ⟨b, cap, cur, rfl, _, hb, hle, _⟩
  · exact ⟨none, 0, by rw [h0], by omega, fun j hj => by omega⟩
  · refine ⟨_, cap, rfl, hle, fun j hj => ⟨b, rfl, h.Fv b rfl, fun e => ?_, frozen_at hb, ?_⟩⟩
    · subst e
      have := h.block
      rw [hb] at this
      injection this with this
      injection this with _ a2
      exact absurd a2 (by decide)
    · have key : ∀ (i : Nat) (u : Value), i < 3 → (L[j].vals)[i]? = some u → w.cell? ⟨b, j * 3 + i, none⟩ = some u := fun i u hi hu => by
        have := h.own.cells (g := b) rfl (j * 3 + i) u ((rowV_get DM.vals 3 DM.vlen L j hj i hi).trans hu)
        rwa [addr_plus, Nat.zero_add] at this
      exact ⟨key 0 _ (by omega) rfl, key 1 _ (by omega) rfl, key 2 _ (by omega) rfl⟩
end
/-- What is changed, and which blocks are a set's then. -/
structure Chg (w w' : World) (F F' : Nat → Prop) : Prop where
  os : w'.os = w.os
  tape : w'.tape = w.tape
  output : w'.output = w.output
  size : w.heap.size ≤ w'.heap.size
  block : ∀ k, k < w.heap.size → ¬ F k → w'.heap[k]? = w.heap[k]?
  new : ∀ k, F' k → F k ∨ w.heap.size ≤ k
section
variable {w w1 w2 : World} {F F1 F2 : Nat → Prop}
theorem Chg.refl (w : World) (F : Nat → Prop) : Chg w w F F := ⟨rfl, rfl, rfl, Nat.le_refl _, fun _ _ _ => rfl, fun _ h => .inl h⟩
theorem Chg.trans (h : Chg w w1 F F1) (k : Chg w1 w2 F1 F2) : Chg w w2 F F2 :=
  ⟨k.os.trans h.os, k.tape.trans h.tape, k.output.trans h.output, Nat.le_trans h.size k.size, fun q hq hn => (k.block q (Nat.lt_of_lt_of_le hq h.size) (fun e => by
    rcases h.new q e with e | e
    · exact hn e
    · omega)).trans (h.block q hq hn), fun q e => by
    rcases k.new q e with e | e
    · exact h.new q e
    · exact .inr (Nat.le_trans h.size e)⟩
theorem Chg.of_below (h : Below w.heap.size w w1) (F : Nat → Prop) : Chg w w1 F F := ⟨h.os, h.tape, h.output, h.size, fun k hk _ => h.block k hk, fun _ h => .inl h⟩
theorem Chg.below (h : Chg w w1 F F1) {B : Nat} (hB : B ≤ w.heap.size) (hF : ∀ k, F k → B ≤ k) : Below B w w1 := ⟨h.os, h.tape, h.output, h.size, fun k hk => h.block k (by omega) fun e => by have := hF k e; omega⟩
theorem Chg.of_grown {r : Nat} (h : w.grownBy w1 (some r)) (hr : F r) : Chg w w1 F F := ⟨h.os, h.tape, h.output, h.size, fun k hk hn => h.block k hk (fun e => by injection e with e; subst e; exact hn hr), fun _ h => .inl h⟩
end
/-- Is there such a sector? -/
def hasB (L : List Dk) (d i : Int) : Bool := decide (0 ≤ d) && (decide (d < L.length) && (decide (0 ≤ i) && decide (i < (((L[d.toNat]?).map Dk.size).getD 0 : Nat))))
theorem hasB_at {L : List DM} {j : Nat} (hj : j < L.length) (i : Int) : hasB (L.map DM.dk) (j : Int) i = (decide (0 ≤ i) && decide (i < (L[j].dk.size : Int))) := by
  unfold hasB
  rw [decide_eq_true (show (0 : Int) ≤ (j : Int) by omega), decide_eq_true (show (j : Int) < ((L.map DM.dk).length : Int) by rw [List.length_map]; omega)]
  simp [List.getElem?_eq_getElem hj]
theorem hasB_no {L : List Dk} {d i : Int} (h : d < 0 ∨ (L.length : Int) ≤ d) : hasB L d i = false := by
  unfold hasB
  rcases h with h | h
  · rw [decide_eq_false (by omega), Bool.false_and]
  · rw [decide_eq_false (show ¬ d < (L.length : Int) by omega), Bool.false_and, Bool.and_false]
set_option maxHeartbeats 1000000 in
theorem has_any {w : World} {F : Nat → Prop} {g : Nat} {p : Pw} {v : Value} {L : List DM} (h : SetM w F g p v L) (d i : Int) (_ : L.length ≤ 1000) :
    Calls Try.prog 100 #[.pointer (some ⟨g, 0, none⟩), .int .i64 d, .int .i64 i] w fun e w' => e = .returned (.bool (hasB (L.map DM.dk) d i)) ∧ w = w' := by
  obtain ⟨_, _, _, _, c4⟩ := h.c
  obtain ⟨A, c, rfl, hle, hc⟩ := h.slice
  by_cases h0 : 0 ≤ d
  · obtain ⟨j, rfl⟩ : ∃ j : Nat, d = (j : Int) := ⟨d.toNat, by omega⟩
    by_cases hj : j < L.length
    · obtain ⟨b, rfl, _, _, _, c0, _, _⟩ := hc j hj
      rw [hasB_at hj]
      obtain ⟨z, hz⟩ : ∃ z, z = L[j].dk.size := ⟨_, rfl⟩
      rw [← hz] at c0 ⊢
      obtain ⟨N, hN⟩ : ∃ N, N = L.length := ⟨_, rfl⟩
      rw [← hN] at c4 hle hj
      clear hc h hz hN
      by_cases h2 : 0 ≤ i
      · have HE := Lib.hid (show (decide (0 ≤ i) && decide (i < (z : Int))) = decide (i < (z : Int)) by rw [decide_eq_true h2, Bool.true_and])
        go_enter Try.func100, Try.ntmps100
        go_wp2_with fail
        go_ret
        exact ⟨by rw [HE.out]; rfl, rfl⟩
      · have HE := Lib.hid (show (decide (0 ≤ i) && decide (i < (z : Int))) = false by rw [decide_eq_false h2, Bool.false_and])
        go_enter Try.func100, Try.ntmps100
        go_wp2_with fail
        go_ret
        exact ⟨by rw [HE.out]; rfl, rfl⟩
    · have HE := Lib.hid (hasB_no (L := L.map DM.dk) (d := (j : Int)) (i := i) (.inr (by rw [List.length_map]; omega)))
      obtain ⟨N, hN⟩ : ∃ N, N = L.length := ⟨_, rfl⟩
      rw [← hN] at c4 hle hj
      clear hc h hN
      go_enter Try.func100, Try.ntmps100
      go_wp2_with fail
      go_ret
      exact ⟨by rw [HE.out]; rfl, rfl⟩
  · have HE := Lib.hid (hasB_no (L := L.map DM.dk) (d := d) (i := i) (.inl (by omega)))
    clear hc h hle
    go_enter Try.func100, Try.ntmps100
    go_wp2_with fail
    go_ret
    exact ⟨by rw [HE.out]; rfl, rfl⟩
end Go.Proofs.Ytjmjehhmkjhalaa

/- The power's step; what a set tells of itself. -/
namespace Go.Proofs.Ytjmjehhmkjhalaa
set_option maxRecDepth 100000
open Go.RowKit

theorem box_set {W : World} {b : Nat} {c : Array Value} {t : TypeId} (h : W.heap[b]? = some (.cells c t (0, 0))) (j : Nat) (v : Value) : (W.setCell ⟨b, j, none⟩ v).heap[b]? = some (.cells (c.setIfInBounds j v) t (0, 0)) := by
  unfold World.setCell
  simp only [Array.getElem?_modify, h]
  simp
theorem type_ne {w : World} {B e size n b : Nat} {v : Value} {xs : List Value} {c : Array Value} {t : TypeId} (h : w.ownsRow B e size v n xs) (hb : w.heap[b]? = some (.cells c t (0, 0))) (he : e ≠ t) : v.ownBlock ≠ some b := by
  intro hk
  rcases h.2 with ⟨rfl, _⟩ | ⟨g, cap, cur, rfl, _, hg', _⟩
  · cases hk
  · injection hk with hk
    subst hk
    rw [hb] at hg'
    injection hg' with hg'
    injection hg' with _ a2
    exact he a2.symm
theorem map_ne {w : World} {b m n : Nat} {f : Int → Sx} {c : Array Value} {t : TypeId} (h : MapS w m n f) (hb : w.heap[b]? = some (.cells c t (0, 0))) : m ≠ b := by
  intro e
  subst e
  obtain ⟨D, ⟨es, clock, h1, _⟩, _⟩ := h
  rw [hb] at h1
  injection h1 with h1
  cases h1
theorem map_row {w : World} {m n : Nat} {f : Int → Sx} {B e size k : Nat} {v : Value} {xs : List Value} (h : MapS w m n f) (ho : w.ownsRow B e size v k xs) : v.ownBlock ≠ some m := by
  intro hk
  rcases ho.2 with ⟨rfl, _⟩ | ⟨g, cap, cur, rfl, _, hg', _⟩
  · cases hk
  · injection hk with hk
    subst hk
    obtain ⟨D, ⟨es, clock, h1, _⟩, _⟩ := h
    have hg'' : w.heap[g]? = some (.cells cur e (0, 0)) := hg'
    rw [h1] at hg''
    injection hg'' with hg''
    cases hg''
section
variable {w w' : World} {F : Nat → Prop} {g : Nat} {p p' : Pw} {v : Value} {L : List DM} {d : DM}
/-- A cell of the power set. -/
theorem SetM.pset (h : SetM w F g p v L) (j : Nat) (u : Value) (hx : (p.arr v).setIfInBounds j u = p'.arr v) : SetM (w.setCell ⟨g, j, none⟩ u) F g p' v L ∧ Chg w (w.setCell ⟨g, j, none⟩ u) F F := by
  have keep : ∀ k, k ≠ g → (w.setCell ⟨g, j, none⟩ u).heap[k]? = w.heap[k]? := fun k hk => Deep.blk_setCell_other w ⟨g, j, none⟩ u k hk
  refine ⟨⟨h.Fg, fun k hk => by rw [World.size_setCell]; exact h.Flt k hk, by rw [box_set h.block, hx], own_same h.own fun q e => keep q (fun e2 => type_ne h.own h.block (by decide) (by rw [e, e2])), h.Fv, fun i hi => ?_, h.apart⟩,
    ⟨rfl, rfl, rfl, by rw [World.size_setCell]; exact Nat.le_refl _, fun k _ hn => keep k (fun e => hn (by rw [e]; exact h.Fg)), fun _ e => .inl e⟩⟩
  have hd := h.each i hi
  exact ⟨hd.map.keep (keep _ (map_ne hd.map h.block)), hd.Fm, own_same hd.waits fun q e => keep q (fun e2 => type_ne hd.waits h.block (by decide) (by rw [e, e2])), hd.Fw⟩
end
def stepP (p : Pw) : Bool × Pw :=
  if p.gone then (false, p) else if p.ia && decide (p.armed = 0) then (false, { p with gone := true }) else (true, { p with steps := p.steps + 1, armed := if p.ia then p.armed - 1 else p.armed })
set_option maxHeartbeats 1000000 in
theorem step_any {w : World} {F : Nat → Prop} {g : Nat} {p : Pw} {v : Value} {L : List DM} (h : SetM w F g p v L) (hs : p.steps ≤ 1000000000) (ha : p.armed ≤ 9223372036854775807) :
    Calls Try.prog 101 #[.pointer (some ⟨g, 0, none⟩)] w fun e w' => e = .returned (.bool (stepP p).1) ∧ SetM w' F g (stepP p).2 v L ∧ Chg w w' F F := by
  obtain ⟨c0, c1, c2, c3, _⟩ := h.c
  have f0 := h.fr 0
  have f1 := h.fr 1
  have f3 := h.fr 3
  have HH := Lib.hid h
  obtain ⟨st, ar, ia, gn⟩ := p
  dsimp only at c0 c1 c2 c3 hs ha
  clear h
  cases gn with
  | true =>
    go_enter Try.func101, Try.ntmps101
    go_wp2_with fail
    go_ret
    exact ⟨rfl, HH.out, Chg.refl _ _⟩
  | false =>
    cases ia with
    | true =>
      by_cases h0 : ar = 0
      · subst h0
        have h3 := HH.out.pset (p' := ⟨st, 0, true, true⟩) 3 (.bool true) rfl
        have H3 := Lib.hid h3
        clear h3
        go_enter Try.func101, Try.ntmps101
        go_wp2_with fail
        go_ret
        exact ⟨rfl, H3.out.1, H3.out.2⟩
      · have hp : 0 < ar := Nat.pos_of_ne_zero h0
        have hne : ((ar : Int) == 0) = false := by rw [beq_eq_false_iff_ne]; omega
        have hsub : (ar : Int) - 1 = ((ar - 1 : Nat) : Int) := by omega
        have HS := Lib.hid (show stepP ⟨st, ar, true, false⟩ = (true, ⟨st + 1, ar - 1, true, false⟩) by simp [stepP, h0])
        have h1 := HH.out.pset (p' := ⟨st, ar - 1, true, false⟩) 1 (.int .i64 ((ar - 1 : Nat) : Int)) rfl
        have h2 := h1.1.pset (p' := ⟨st + 1, ar - 1, true, false⟩) 0 (.int .i64 ((st + 1 : Nat) : Int)) rfl
        have H2 := Lib.hid (show SetM _ F g ⟨st + 1, ar - 1, true, false⟩ v L ∧ Chg w _ F F from ⟨h2.1, h1.2.trans h2.2⟩)
        clear h1 h2 h0
        obtain ⟨A, hA⟩ : ∃ A, A = ar - 1 := ⟨_, rfl⟩
        rw [← hA] at hsub H2 HS
        clear hA
        go_enter Try.func101, Try.ntmps101
        go_wp2_with fail
        go_ret
        rw [HS.out]
        exact ⟨rfl, H2.out.1, H2.out.2⟩
    | false =>
      have HS := Lib.hid (show stepP ⟨st, ar, false, false⟩ = (true, ⟨st + 1, ar, false, false⟩) by simp [stepP])
      have h2 := HH.out.pset (p' := ⟨st + 1, ar, false, false⟩) 0 (.int .i64 ((st + 1 : Nat) : Int)) rfl
      have H2 := Lib.hid h2
      clear h2
      go_enter Try.func101, Try.ntmps101
      go_wp2_with fail
      go_ret
      rw [HS.out]
      exact ⟨rfl, H2.out.1, H2.out.2⟩
section
variable {w : World} {F : Nat → Prop} {g : Nat} {p : Pw} {v : Value} {L : List DM}
set_option maxHeartbeats 400000 in
theorem steps_any (h : SetM w F g p v L) : Calls Try.prog 99 #[.pointer (some ⟨g, 0, none⟩)] w fun e w' => e = .returned (.int .i64 (p.steps : Int)) ∧ w = w' := by
  obtain ⟨c0, _, _, _, _⟩ := h.c
  clear h
  go_enter Try.func99, Try.ntmps99
  go_wp2_with fail
  go_ret
  exact ⟨rfl, rfl⟩
/-- How many writes of a device wait. -/
def waitN (L : List Dk) (d : Int) : Nat := if hasB L d 0 then ((L[d.toNat]?).map fun k => k.waits.length).getD 0 else 0
end
end Go.Proofs.Ytjmjehhmkjhalaa
