/- RTake: put together. -/
import Derived.Test.YtejpjbmbcdgomaaPc35
import Derived.Test.YtejpjbmbcdgomaaPc37
import Derived.Test.YtejpjbmbcdgomaaPc31
/- The document's Take. Written by gen_rtake.py. -/
namespace Go.Proofs.Ytejpjbmbcdgomaa
set_option maxRecDepth 100000
open Go.RowKit

/-- The document's reader, its store under construction, and an entry's box y. -/
structure RkS (w : World) (M p2 p6 g y : Nat) (L : List En) (last : Int) (bs : List Nat) (bad : Bool) (wr : World) : Prop where
  b : Below w.heap.size w wr
  rd : Rfx wr g g bs bad
  b2 : wr.heap[p2]? = some (.cells #[.slice none 0 0, .int .i64 0] 31 (0, 0))
  row : ∃ v, wr.heap[p6]? = some (.cells #[v, .int .i64 last] 31 (0, 0)) ∧ Eno wr M v L ∧ v.ownBlock ≠ some y
  lo : w.heap.size ≤ p2 ∧ w.heap.size ≤ g ∧ w.heap.size ≤ p6
  ne : p2 ≠ g ∧ p2 ≠ p6 ∧ p6 ≠ g
  hi : p2 < M ∧ g < M ∧ p6 < M ∧ M ≤ wr.heap.size ∧ M ≤ y
  gp : g < p6
section
variable {w wr w1 : World} {M p2 p6 g y y' j : Nat} {L : List En} {last : Int} {bs bs' : List Nat} {bad bad' : Bool} {u : Value}
theorem RkS.below (h : RkS w M p2 p6 g y L last bs bad wr) (hb : Below wr.heap.size wr w1) : RkS w M p2 p6 g y L last bs bad w1 := by
  obtain ⟨h1, h2, h3, ⟨v, h4, h5, h6⟩, h7, h8, h9, h10⟩ := h
  exact ⟨h1.trans (hb.mono h1.size), h2.stays (hb.block g (by omega)) fun k hk => hb.block k (by omega), (hb.block p2 (by omega)).trans h3, ⟨v, (hb.block p6 (by omega)).trans h4, h5.below hb, h6⟩, h7, h8, ⟨h9.1, h9.2.1, h9.2.2.1, Nat.le_trans h9.2.2.2.1 hb.size, h9.2.2.2.2⟩, h10⟩
theorem RkS.read (h : RkS w M p2 p6 g y L last bs bad wr) (hr : Rfx w1 g g bs' bad') (ho : OnlyG wr w1 g) : RkS w M p2 p6 g y L last bs' bad' w1 := by
  obtain ⟨h1, h2, h3, ⟨v, h4, h5, h6⟩, h7, h8, h9, h10⟩ := h
  have hk : ∀ q, q < wr.heap.size → q ≠ g → w1.heap[q]? = wr.heap[q]? := fun q hq hn => ho.at hq hn
  refine ⟨⟨ho.os.trans h1.os, ho.tape.trans h1.tape, ho.output.trans h1.output, Nat.le_trans h1.size ho.size, fun q hq => (hk q (Nat.lt_of_lt_of_le hq h1.size) (by omega)).trans (h1.block q hq)⟩, hr, (hk p2 (by omega) h8.1).trans h3, ⟨v, (hk p6 (by omega) h8.2.2).trans h4, own_same h5 fun q hq => ?_, h6⟩, h7, h8, ⟨h9.1, h9.2.1, h9.2.2.1, Nat.le_trans h9.2.2.2.1 ho.size, h9.2.2.2.2⟩, h10⟩
  obtain ⟨_, e⟩ := own_at h5 hq
  have := own_ge h5 hq
  exact hk q (Array.getElem?_eq_some_iff.1 e).1 (by omega)
/-- The entry's box is written. -/
theorem RkS.setE (h : RkS w M p2 p6 g y L last bs bad wr) : RkS w M p2 p6 g y L last bs bad (wr.setCell ⟨y, j, none⟩ u) := by
  obtain ⟨h1, h2, h3, ⟨v, h4, h5, h6⟩, h7, h8, h9, h10⟩ := h
  have hk : ∀ q, q ≠ y → (wr.setCell ⟨y, j, none⟩ u).heap[q]? = wr.heap[q]? := fun q hn => heap_ne _ _ _ _ hn
  exact ⟨h1.setCell (p := ⟨y, j, none⟩) (by show _ ≤ y; omega) u, h2.stays (hk g (by omega)) fun k hk' => hk k (by omega), (hk p2 (by omega)).trans h3, ⟨v, (hk p6 (by omega)).trans h4, own_same h5 fun q hq => hk q fun e => h6 (by rw [hq, e]), h6⟩, h7, h8, ⟨h9.1, h9.2.1, h9.2.2.1, by rw [World.size_setCell]; exact h9.2.2.2.1, h9.2.2.2.2⟩, h10⟩
/-- A new entry's box. -/
theorem RkS.box (h : RkS w M p2 p6 g y L last bs bad wr) (o : Obj) : RkS w M p2 p6 g wr.heap.size L last bs bad (wr.alloc o) := by
  have hb : Below wr.heap.size wr (wr.alloc o) := (Below.refl _ _).alloc (Nat.le_refl _) o
  obtain ⟨h1, h2, h3, ⟨v, h4, h5, h6⟩, h7, h8, h9, h10⟩ := h.below hb
  obtain ⟨_, _, _, ⟨v0, g4, g5, _⟩, _, _, g9, _⟩ := h
  have e0 : v0 = v := by
    have e1 := (hb.block p6 (by omega)).trans g4
    rw [h4] at e1
    simpa using e1.symm
  subst e0
  refine ⟨h1, h2, h3, ⟨v0, h4, h5, fun c => ?_⟩, h7, h8, ⟨h9.1, h9.2.1, h9.2.2.1, h9.2.2.2.1, g9.2.2.2.1⟩, h10⟩
  obtain ⟨_, e⟩ := own_at g5 c
  have := (Array.getElem?_eq_some_iff.1 e).1
  omega
/-- One entry more. -/
theorem RkS.push {v v' : Value} {e : En} {o : Obj} (h : RkS w M p2 p6 g y L last bs bad wr) (h4 : wr.heap[p6]? = some (.cells #[v, .int .i64 last] 31 (0, 0))) (h5 : Eno wr M v L)
    (ho : w1.ownsRow M 46 5 v' (L.length + 1) (rowV En.vals L ++ e.vals)) (hg : (wr.alloc o).grownBy w1 v.ownBlock) (hq : ∀ q, v'.ownBlock = some q → v.ownBlock = some q ∨ (wr.alloc o).heap.size ≤ q) (hy : wr.heap[y]? ≠ none ∧ v.ownBlock ≠ some y) :
    RkS w M p2 p6 g y (L ++ [e]) last bs bad (w1.setCell ⟨p6, 0, none⟩ v') ∧ w1.heap[p6]? = some (.cells #[v, .int .i64 last] 31 (0, 0)) ∧ (w1.setCell ⟨p6, 0, none⟩ v').heap[y]? = wr.heap[y]? := by
  obtain ⟨h1, h2, h3, _, h7, h8, h9, h10⟩ := h
  have hbl := (Below.refl wr.heap.size wr).alloc (Nat.le_refl _) o
  have hge : ∀ q, v.ownBlock = some q → M ≤ q := fun q e => own_ge h5 e
  have hyl : y < wr.heap.size := by
    rcases Nat.lt_or_ge y wr.heap.size with c | c
    · exact c
    · exact absurd (Array.getElem?_eq_none c) hy.1
  have hk : ∀ q, q < wr.heap.size → v.ownBlock ≠ some q → w1.heap[q]? = wr.heap[q]? := fun q hq1 hn => (hg.block q (Nat.lt_of_lt_of_le hq1 hbl.size) (fun e => hn e.symm)).trans (hbl.block q hq1)
  have hlow : ∀ q, q < M → w1.heap[q]? = wr.heap[q]? := fun q hq1 => hk q (by omega) fun c => by have := hge q c; omega
  have hp6 := (hlow p6 h9.2.2.1).trans h4
  have hs : ∀ q, q ≠ p6 → (w1.setCell ⟨p6, 0, none⟩ v').heap[q]? = w1.heap[q]? := fun q hn => heap_ne _ _ _ _ hn
  have hsz : wr.heap.size ≤ w1.heap.size := Nat.le_trans hbl.size hg.size
  have hwM : w.heap.size ≤ M := by omega
  refine ⟨⟨⟨hg.os.trans (hbl.os.trans h1.os), hg.tape.trans (hbl.tape.trans h1.tape), hg.output.trans (hbl.output.trans h1.output), by rw [World.size_setCell]; exact Nat.le_trans h1.size hsz, fun q hq1 => (hs q (by omega)).trans ((hlow q (by omega)).trans (h1.block q hq1))⟩, h2.stays ((hs g (fun e => h8.2.2 e.symm)).trans (hlow g h9.2.1)) fun k hk' => (hs k (by omega)).trans (hlow k (by omega)), (hs p2 h8.2.1).trans ((hlow p2 h9.1).trans h3), ⟨v', (heap_set w1 p6 0 v' hp6).trans rfl, ?_, fun c => ?_⟩, h7, h8, ⟨h9.1, h9.2.1, h9.2.2.1, by rw [World.size_setCell]; omega, h9.2.2.2.2⟩, h10⟩, hp6, (hs y (by omega)).trans (hk y hyl hy.2)⟩
  · have g9 : w1.ownsRow M 46 5 v' (L ++ [e]).length (rowV En.vals (L ++ [e])) := by
      rw [List.length_append, rowV_append]
      simpa [rowV] using ho
    exact own_same g9 fun q hq2 => hs q fun c => by have := own_ge g9 hq2; omega
  · rcases hq y c with c2 | c2
    · exact hy.2 c2
    · have := hbl.size; omega
theorem RkS.putLast (h : RkS w M p2 p6 g y L last bs bad wr) (n : Int) : RkS w M p2 p6 g y L n bs bad (wr.setCell ⟨p6, 1, none⟩ (.int .i64 n)) := by
  obtain ⟨h1, h2, h3, ⟨v, h4, h5, h6⟩, h7, h8, h9, h10⟩ := h
  have hk : ∀ q, q ≠ p6 → (wr.setCell ⟨p6, 1, none⟩ (.int .i64 n)).heap[q]? = wr.heap[q]? := fun q hn => heap_ne _ _ _ _ hn
  exact ⟨h1.setCell (p := ⟨p6, 1, none⟩) h7.2.2 _, h2.stays (hk g (fun e => h8.2.2 e.symm)) fun k hk' => hk k (by omega), (hk p2 h8.2.1).trans h3, ⟨v, (heap_set wr p6 1 _ h4).trans rfl, own_same h5 fun q hq => hk q fun e => by have := own_ge h5 hq; omega, h6⟩, h7, h8, ⟨h9.1, h9.2.1, h9.2.2.1, by rw [World.size_setCell]; exact h9.2.2.2.1, h9.2.2.2.2⟩, h10⟩
theorem RkS.count (h : RkS w M p2 p6 g y L last bs bad wr) : Calls Try.prog 64 #[.pointer (some ⟨g, 0, none⟩)] wr fun e w' => e = .returned (.int .u64 (((rcount bs).1 : Nat) : Int)) ∧ RkS w M p2 p6 g y L last (rcount bs).2.1 (rcount bs).2.2 w' ∧ OnlyG wr w' g :=
  Calls.mono (mcount_any g g bs bad wr h.rd) fun _ _ ⟨h1, h2, h3⟩ => ⟨h1, h.read h2 h3, h3⟩
theorem RkS.num (h : RkS w M p2 p6 g y L last bs bad wr) : Calls Try.prog 65 #[.pointer (some ⟨g, 0, none⟩)] wr fun e w' => e = .returned (.int .i64 (unfoldN (rcount bs).1)) ∧ RkS w M p2 p6 g y L last (rcount bs).2.1 (rcount bs).2.2 w' ∧ OnlyG wr w' g :=
  Calls.mono (mnum_any g g bs bad wr h.rd) fun _ _ ⟨h1, h2, h3⟩ => ⟨h1, h.read h2 h3, h3⟩
theorem RkS.byte (h : RkS w M p2 p6 g y L last bs bad wr) : Calls Try.prog 66 #[.pointer (some ⟨g, 0, none⟩)] wr fun e w' => e = .returned (.int .u8 ((byteT bs : Nat) : Int)) ∧ RkS w M p2 p6 g y L last (bs.drop 1) (bad || decide (bs.length = 0)) w' :=
  Calls.mono (mbyte_any g g bs bad wr h.rd) fun _ _ ⟨h1, h2, h3⟩ => ⟨h1, h.read h2 h3⟩
theorem RkS.bad1 (h : RkS w M p2 p6 g y L last bs bad wr) : wr.cell? ⟨g, 1, none⟩ = some (.bool bad) := by
  obtain ⟨A, n, c, h9⟩ := h.rd
  exact h9.c1
/-- What is answered where the text is none's. -/
theorem RkS.zero (h : RkS w M p2 p6 g y L last bs bad wr) : wr.cell? ⟨p2, 0, none⟩ = some (.slice none 0 0) ∧ wr.cell? ⟨p2, 1, none⟩ = some (.int .i64 0) ∧ (∀ k, wr.frozen? ⟨p2, k, none⟩ = false) ∧ ∀ a b, Below w.heap.size w ((wr.setCell ⟨p2, 0, none⟩ a).setCell ⟨p2, 1, none⟩ b) ∧ ((wr.setCell ⟨p2, 0, none⟩ a).setCell ⟨p2, 1, none⟩ b).cell? ⟨p2, 0, none⟩ = some a ∧ ((wr.setCell ⟨p2, 0, none⟩ a).setCell ⟨p2, 1, none⟩ b).cell? ⟨p2, 1, none⟩ = some b := by
  refine ⟨by rw [cell_of_row _ _ 0 _ _ _ h.b2]; rfl, by rw [cell_of_row _ _ 1 _ _ _ h.b2]; rfl, frozen_of h.b2, fun a b => ?_⟩
  have h2 := heap_set _ p2 1 b (heap_set wr p2 0 a h.b2)
  exact ⟨(h.b.setCell (p := ⟨p2, 0, none⟩) h.lo.1 a).setCell (p := ⟨p2, 1, none⟩) h.lo.1 b, cell_of_row _ _ 0 _ _ _ h2, cell_of_row _ _ 1 _ _ _ h2⟩
/-- The row lies in memory behind the writes into the answer's box. -/
theorem RkS.fin {A : Option Addr} {m c : Nat} (h : RkS w M p2 p6 g y L last bs bad wr) (h4 : wr.heap[p6]? = some (.cells #[.slice A m c, .int .i64 last] 31 (0, 0))) (a b : Value) : m = L.length ∧ Ens ((wr.setCell ⟨p2, 0, none⟩ a).setCell ⟨p2, 1, none⟩ b) A L ∧ ∀ bk o, A = some ⟨bk, o, none⟩ → w.heap.size ≤ bk := by
  obtain ⟨v, g4, g5, g6⟩ := h.row
  have e0 : v = .slice A m c := by
    rw [h4] at g4
    simpa using g4.symm
  subst e0
  have g7 := own_same (w' := (wr.setCell ⟨p2, 0, none⟩ a).setCell ⟨p2, 1, none⟩ b) g5 fun q hq => by
    have := own_ge g5 hq
    have := h.hi.1
    rw [heap_ne _ _ _ _ (by omega), heap_ne _ _ _ _ (by omega)]
  obtain ⟨A', c', e, hr, _⟩ := rdv_own g7
  injection e with e1 e2 _
  subst e1
  refine ⟨e2, ⟨rfl, hr⟩, fun bk o e => ?_⟩
  subst e
  have := own_ge g5 (q := bk) rfl
  have := h.lo.1
  have := h.hi.1
  omega
end
/-- What the document's Take answers. -/
def RtkE (w : World) (r : Option (List En)) (e : Ending) (w' : World) : Prop := Below w.heap.size w w' ∧ ∃ A m c last, e = .returned (.tuple #[.agg #[.slice A m c, .int .i64 last], .bool r.isSome]) ∧ ∀ l, r = some l → m = l.length ∧ last = maxQ l ∧ Ens w' A l ∧ ∀ bk o, A = some ⟨bk, o, none⟩ → w.heap.size ≤ bk
theorem RtkE.bad {w w' : World} {r : Option (List En)} {A : Option Addr} {m c : Nat} {last : Int} (hb : Below w.heap.size w w') (hr : r = none) : RtkE w r (.returned (.tuple #[.agg #[.slice A m c, .int .i64 last], .bool false])) w' := by
  subst hr
  exact ⟨hb, _, _, _, _, rfl, fun l h => by cases h⟩
set_option maxHeartbeats 16000000 in
theorem r9take_any {w : World} {A : Option Addr} {n c : Nat} {bs : List Nat} (hr : Rdv w A n 1 (valsB bs)) (hnil : A = none → c = 0 ∧ n = 0) (hn : n ≤ 3000) (hs : ∀ x ∈ bs, x < 256) :
    Calls Try.prog 22 #[.slice A n c] w fun e w' => RtkE w (takR bs) e w' := by
  obtain ⟨R, hR⟩ : ∃ R, R = takR bs := ⟨_, rfl⟩
  have HR := Lib.hid hR
  rw [← hR]
  have hbl : bs.length = n := by have := hr.1; rw [valsB_length] at this; omega
  have HBL := Lib.hid (And.intro hbl hn)
  have HIN := Lib.hid (And.intro hr (And.intro (fun h => (hnil h).1) hs))
  obtain ⟨p2, hp2⟩ : ∃ p2, p2 = w.heap.size := ⟨_, rfl⟩
  obtain ⟨W1, hW1⟩ : ∃ W1, W1 = w.alloc (.cells #[.slice none 0 0, .int .i64 0] 31) := ⟨_, rfl⟩
  have hb1 : Below w.heap.size w W1 := by rw [hW1]; exact (Below.refl _ _).alloc (Nat.le_refl _) _
  have hx1 : W1.heap[p2]? = some (.cells #[.slice none 0 0, .int .i64 0] 31 (0, 0)) := by rw [hW1, hp2]; exact heap_alloc_new w _
  obtain ⟨W2, hW2⟩ : ∃ W2, W2 = W1.alloc (.cells #[] 5) := ⟨_, rfl⟩
  have hb2 : Below W1.heap.size W1 W2 := by rw [hW2]; exact (Below.refl _ _).alloc (Nat.le_refl _) _
  have hoe : OwnB W2 W1.heap.size (.slice (some ⟨W1.heap.size, 0, none⟩) 0 0) [] := by rw [hW2]; exact own_empty W1 W1.heap.size 5 1 5 rfl (Nat.le_refl _)
  have hr2 : Rdv W2 A n 1 (valsB bs) := hr.ext fun _ hp => (hb2.cell (Nat.lt_of_lt_of_le hp hb1.size)).trans (hb1.cell hp)
  have H2 := Lib.hid (And.intro hoe (And.intro hr2 (And.intro hb1 (And.intro hx1 hb2))))
  have HW1 := Lib.hid (And.intro hW1 hp2)
  have HW2 := Lib.hid hW2
  clear hr hnil hn hs hR hbl hW1 hp2 hb1 hx1 hW2 hb2 hoe hr2
  go_enter Try.func22, Try.ntmps22
  go_upto_region 1 with fail
  rw [← HW1.out.1, ← HW1.out.2]
  go_upto_region 2 with (at_builtin; rw [← HW2.out]; refine wpList_appB rfl (.tmp 11) (.tmp 12) rfl W1.heap.size (.slice (some ⟨W1.heap.size, 0, none⟩) 0 0) [] rfl H2.out.1 A n c bs rfl H2.out.2.1 HIN.out.2.1 (by have := HBL.out.2; simp; omega) H2.out.2.2.2.2.size ?_; intro v3 W3 ho hb ht hq; obtain ⟨A3, c3, rfl⟩ := own_form ho; have HO3 := Lib.hid (And.intro ho (And.intro hb ht)); clear ho hb ht hq)
  obtain ⟨g, hg⟩ : ∃ g, g = W3.heap.size := ⟨_, rfl⟩
  obtain ⟨W4, hW4⟩ : ∃ W4, W4 = W3.alloc (.cells #[.slice A3 bs.length c3, .bool false] 127) := ⟨_, rfl⟩
  have hb4 : Below W3.heap.size W3 W4 := by rw [hW4]; exact (Below.refl _ _).alloc (Nat.le_refl _) _
  have hx4 : W4.heap[g]? = some (.cells #[.slice A3 bs.length c3, .bool false] 127 (0, 0)) := by rw [hW4, hg]; exact heap_alloc_new W3 _
  have HRX : Hid (Rfx W4 g g bs false ∧ W4.heap[p2]? = some (.cells #[.slice none 0 0, .int .i64 0] 31 (0, 0)) ∧ Below w.heap.size w W4 ∧ p2 < g ∧ g < W4.heap.size ∧ w.heap.size ≤ p2) := Lib.hid (by
    obtain ⟨ho, hb, ht⟩ := HO3.out
    have hs3 := Nat.le_trans H2.out.2.2.2.2.size ht.size
    have h13 : Below W1.heap.size W1 W3 := H2.out.2.2.2.2.trans hb
    obtain ⟨A9, c9, e9, hr9, hn9, hc9⟩ := OwnB.rdv ho
    injection e9 with e1 _ e3
    subst e1 e3
    have hp := (Array.getElem?_eq_some_iff.1 H2.out.2.2.2.1).1
    refine ⟨⟨A3, bs.length, c3, Nat.le_refl _, hx4, hr9.ext fun _ hp => hb4.cell hp, ?_, (fun h => by cases h), HIN.out.2.2, by have := HBL.out; omega⟩, (hb4.block p2 (by omega)).trans ((h13.block p2 hp).trans H2.out.2.2.2.1), H2.out.2.2.1.trans ((h13.trans (hb4.mono hs3)).mono H2.out.2.2.1.size), by omega, by rw [hW4, hg]; simp, by rw [HW1.out.2]; exact Nat.le_refl _⟩
    rcases A3 with _ | ⟨b3, o3, _ | m3⟩
    · refine .inl ⟨rfl, ?_, hn9 rfl⟩
      rcases Nat.eq_zero_or_pos bs.length with h0 | h0
      · exact h0
      · obtain ⟨_, _, e, _⟩ := hr9.2 h0; cases e
    · obtain ⟨_, e⟩ := own_at ho (q := b3) rfl
      exact .inr ⟨b3, o3, rfl, by rw [hg]; exact (Array.getElem?_eq_some_iff.1 e).1, hc9⟩
    · rcases ho.2 with ⟨h0, _⟩ | ⟨g9, cap, cur, h0, _⟩
      · cases h0
      · cases h0)
  have HW4 := Lib.hid (And.intro hW4 hg)
  rw [← hW4, ← hg]
  clear hb4 hx4 hW4 hg
  have HC4 := Lib.hid (mcount_any g g bs false W4 HRX.out.1)
  obtain ⟨N, hN⟩ : ∃ N, N = (rcount bs).1 := ⟨_, rfl⟩
  obtain ⟨b0, hb0⟩ : ∃ b0, b0 = (rcount bs).2.1 := ⟨_, rfl⟩
  obtain ⟨d0, hd0⟩ : ∃ d0, d0 = (rcount bs).2.2 := ⟨_, rfl⟩
  rw [← hN, ← hb0, ← hd0] at HC4
  have HRR : Hid (R = if 4096 < N then none else match takF N b0 [] with | none => none | some (l, rest) => if rest = [83] then some l else none) := Lib.hid (by rw [HR.out, hN, hb0]; rfl)
  clear hN hb0 hd0
  go_wp2_with fail
  refine Calls.mono HC4.out ?_
  rintro e w5 ⟨rfl, hrd, ho⟩
  obtain ⟨p6, hp6⟩ : ∃ p6, p6 = w5.heap.size := ⟨_, rfl⟩
  obtain ⟨W6, hW6⟩ : ∃ W6, W6 = w5.alloc (.cells #[.slice none 0 0, .int .i64 0] 31) := ⟨_, rfl⟩
  obtain ⟨M, hM⟩ : ∃ M, M = W6.heap.size := ⟨_, rfl⟩
  have HT3 : Hid (RkS w M p2 p6 g M [] 0 b0 d0 W6) := Lib.hid (by
    have hb6 : Below w5.heap.size w5 W6 := by rw [hW6]; exact (Below.refl _ _).alloc (Nat.le_refl _) _
    have hx6 : W6.heap[p6]? = some (.cells #[.slice none 0 0, .int .i64 0] 31 (0, 0)) := by rw [hW6, hp6]; exact heap_alloc_new w5 _
    obtain ⟨_, k2, k3, k4, k5, k6⟩ := HRX.out
    have hk : ∀ q, q < W4.heap.size → q ≠ g → w5.heap[q]? = W4.heap[q]? := fun q hq hn => ho.at hq hn
    have hs := ho.size
    have hsM : M = w5.heap.size + 1 := by rw [hM, hW6]; simp
    have hb5 : Below w.heap.size w w5 := ⟨ho.os.trans k3.os, ho.tape.trans k3.tape, ho.output.trans k3.output, Nat.le_trans k3.size ho.size, fun q hq => (hk q (by omega) (by omega)).trans (k3.block q hq)⟩
    exact ⟨hb5.trans (hb6.mono hb5.size), hrd.stays (hb6.block g (by omega)) fun k hk' => hb6.block k (by omega), (hb6.block p2 (by omega)).trans ((hk p2 (by omega) (by omega)).trans k2), ⟨.slice none 0 0, hx6, World.ownsRow_nil _ _ _ _, (fun h => by cases h)⟩, ⟨k6, by omega, by omega⟩, ⟨by omega, by omega, by omega⟩, ⟨by omega, by omega, by omega, by omega, Nat.le_refl _⟩, by omega⟩)
  have HW6 := Lib.hid (And.intro hW6 hp6)
  clear hrd ho hW6 hp6 hM
  go_upto_region 4 with fail
  rw [← HW6.out.1, ← HW6.out.2]
  by_cases hN : 4096 < N
  · have i1 : (4096 : Int) < (N : Int) := by omega
    have HE : Hid (R = none) := Lib.hid (by rw [HRR.out, if_pos hN])
    obtain ⟨vr, hv1, hv2, hv3⟩ := HT3.out.row
    obtain ⟨A9, c9, rfl⟩ := own_form hv2
    obtain ⟨n9, hn9⟩ : ∃ n9, n9 = ([] : List En).length := ⟨_, rfl⟩
    rw [← hn9] at hv1
    have c60 : W6.cell? ⟨p6, 0, none⟩ = some (.slice A9 n9 c9) := by rw [cell_of_row _ _ 0 _ _ _ hv1]; rfl
    have c61 : W6.cell? ⟨p6, 1, none⟩ = some (.int .i64 0) := by rw [cell_of_row _ _ 1 _ _ _ hv1]; rfl
    obtain ⟨za, zb, zf, zz⟩ := HT3.out.zero
    have HZ := Lib.hid (zz (.slice A9 n9 c9) (.int .i64 0))
    clear zz hv1 hv2 hv3 hN hn9
    go_wp2_with fail
    refine bodyPost_ret (v := .tuple #[.agg #[.slice A9 n9 c9, .int .i64 0], .bool false]) (by simp [results, Try.results22, go_sem, HZ.out.2.1, HZ.out.2.2]) rfl (RtkE.bad HZ.out.1 HE.out)
  · have i1 : ¬ (4096 : Int) < (N : Int) := by omega
    have hN4 : N ≤ 4096 := by omega
    have HN4 := Lib.hid hN4
    have HRF : Hid (R = match takF N b0 [] with | none => none | some (l, rest) => if rest = [83] then some l else none) := Lib.hid (by rw [HRR.out, if_neg hN])
    obtain ⟨TF, hTF⟩ : ∃ TF, TF = takF N b0 [] := ⟨_, rfl⟩
    rw [← hTF] at HRF
    have HTF : Hid (takF (N - 0) b0 [] = TF) := Lib.hid hTF.symm
    clear hN hTF HRR
    have HI2 : Hid (wrap64 (N : Int) = (N : Int)) := Lib.hid (by unfold wrap64; omega)
    have HI3 : Hid (IntKind.i64.wrap (N : Int) = (N : Int)) := Lib.hid (by rw [IntKind.wrap_i64]; omega)
    go_wp2_with fail
    clear i1
    go_loopw [7, 8, 9, 10, 22, 23, 24, 25, 26, 27, 28, 29, 30, 31, 32, 33, 34, 35, 36, 37, 38, 39, 40, 41, 42, 43, 44, 45, 46, 47, 48, 49, 50, 51, 52, 53, 54, 55, 56, 57, 58, 59, 60, 61, 62, 63, 64, 65, 66, 67, 68, 69, 70, 71, 72, 73, 74, 75, 76, 77, 78, 79, 80, 81, 82, 83, 84, 85, 86, 87, 88, 89, 90, 91, 92, 93, 94, 95, 96, 97, 98, 99, 100, 101, 102, 103] (fun ix _ _ _ _ _ _ _ _ _ _ _ _ _ _ _ _ _ _ _ _ _ _ _ _ _ _ _ _ _ _ _ _ _ _ _ _ _ _ _ _ _ _ _ _ _ _ _ _ _ _ _ _ _ _ _ _ _ _ _ _ _ _ _ _ _ _ _ _ _ _ _ _ _ _ _ _ _ _ _ _ _ _ _ _ _ wr => ∃ (z : Nat) (L : List En) (last : Int) (bs : List Nat) (bad : Bool) (y : Nat), ix = .int .i64 (z : Int) ∧ z ≤ N ∧ takF (N - z) bs L = TF ∧ L.length = z ∧ last = maxQ L ∧ RkS w M p2 p6 g y L last bs bad wr) (fun ix _ _ _ _ _ _ _ _ _ _ _ _ _ _ _ _ _ _ _ _ _ _ _ _ _ _ _ _ _ _ _ _ _ _ _ _ _ _ _ _ _ _ _ _ _ _ _ _ _ _ _ _ _ _ _ _ _ _ _ _ _ _ _ _ _ _ _ _ _ _ _ _ _ _ _ _ _ _ _ _ _ _ _ _ _ wr => N - (intOf ix).toNat)
    case atStart => exact ⟨0, [], 0, b0, d0, M, rfl, Nat.zero_le _, HTF.out, rfl, rfl, HT3.out⟩
    case round =>
      obtain ⟨z, L, last, bs, bad, y0, rfl, hz, htf, hlen, hlast, hT⟩ := hrel
      have HTS := Lib.hid (And.intro htf (And.intro hlen hlast))
      have HT := Lib.hid hT
      have i2 := HI2.out
      have i3 := HI3.out
      have c1 := hT.bad1
      clear htf hlen hlast hT
      by_cases hlt : z < N
      · cases bad with
        | true =>
          have hbs : bs = [] := HT.out.rd.empty
          subst hbs
          have HE : Hid (R = none) := Lib.hid (by
            have e1 : N - z = (N - (z + 1)) + 1 := by omega
            have h9 := HTS.out.1
            rw [e1, takF_bad (fun h => by have h1 := okE_good h; have h2 : r4bad [] = true := rfl; rw [h2] at h1; cases h1)] at h9
            rw [HRF.out, ← h9])
          have HBY := Lib.hid HT.out.byte
          rw [show byteT [] = 0 from rfl] at HBY
          go_wp2_with fail
          refine Calls.mono HBY.out ?_
          rintro e w4 ⟨rfl, hT4⟩
          have HT4 := Lib.hid hT4
          clear hT4
          obtain ⟨za, zb, zf, zz⟩ := HT4.out.zero
          have HZ := Lib.hid (zz (.slice none 0 0) (.int .i64 0))
          clear zz
          go_wp2_with fail
          refine bodyPost_ret (v := .tuple #[.agg #[.slice none 0 0, .int .i64 0], .bool false]) (by simp [results, Try.results22, go_sem, HZ.out.2.1, HZ.out.2.2]) rfl (RtkE.bad HZ.out.1 HE.out)
        | false =>
          have HSB := Lib.hid HT.out.rd.small
          obtain ⟨t, ht⟩ : ∃ t, t = r4t bs := ⟨_, rfl⟩
          obtain ⟨a1, ha1⟩ : ∃ x, x = r4a bs := ⟨_, rfl⟩
          obtain ⟨k, hk⟩ : ∃ x, x = r4k bs := ⟨_, rfl⟩
          obtain ⟨a2, ha2⟩ : ∃ x, x = r4b bs := ⟨_, rfl⟩
          obtain ⟨v, hv⟩ : ∃ x, x = r4v bs := ⟨_, rfl⟩
          obtain ⟨a3, ha3⟩ : ∃ x, x = r4c bs := ⟨_, rfl⟩
          obtain ⟨q, hq⟩ : ∃ x, x = r4q bs := ⟨_, rfl⟩
          obtain ⟨a4, ha4⟩ : ∃ x, x = r4d bs := ⟨_, rfl⟩
          have HEQ := Lib.hid (And.intro ht (And.intro ha1 (And.intro hk (And.intro ha2 (And.intro hv (And.intro ha3 (And.intro hq ha4)))))))
          clear ht ha1 hk ha2 hv ha3 hq ha4
          have C1 : Hid (Calls Try.prog 64 #[.pointer (some ⟨g, 0, none⟩)] wr fun e w' => e = .returned (.int .u64 (t : Int)) ∧ ∃ d, RkS w M p2 p6 g y0 L last a1 d w') := Lib.hid (by rw [HEQ.out.1, HEQ.out.2.1]; exact Calls.mono HT.out.count fun _ _ ⟨h1, h2, _⟩ => ⟨h1, _, h2⟩)
          go_wp2_with fail
          refine Calls.mono C1.out ?_
          rintro e w4 ⟨rfl, d1, hT⟩
          have HT4 := Lib.hid hT
          clear hT C1 c1 i2 i3
          have C1 : Hid (Calls Try.prog 65 #[.pointer (some ⟨g, 0, none⟩)] w4 fun e w' => e = .returned (.int .i64 k) ∧ ∃ d, RkS w M p2 p6 g y0 L last a2 d w') := Lib.hid (by have h := HT4.out.num; rw [HEQ.out.2.1] at h; rw [HEQ.out.2.2.1, HEQ.out.2.2.2.1]; exact Calls.mono h fun _ _ ⟨h1, h2, _⟩ => ⟨h1, _, h2⟩)
          go_wp2_with fail
          refine Calls.mono C1.out ?_
          rintro e w5' ⟨rfl, d2, hT⟩
          obtain ⟨y, hy⟩ : ∃ y, y = w5'.heap.size := ⟨_, rfl⟩
          obtain ⟨w6, hw6⟩ : ∃ w6, w6 = w5'.alloc (.cells #[.int .i64 0, .int .i64 k, .int .i64 0, .int .i64 0, .bool false] 46) := ⟨_, rfl⟩
          have HT6 : Hid (RkS w M p2 p6 g y L last a2 d2 w6 ∧ w6.heap[y]? = some (.cells #[.int .i64 0, .int .i64 k, .int .i64 0, .int .i64 0, .bool false] 46 (0, 0))) := Lib.hid (by
            rw [hw6, hy]
            exact ⟨hT.box _, heap_alloc_new w5' _⟩)
          have HW6' := Lib.hid (And.intro hw6 hy)
          clear hT C1 hw6 hy
          go_upto_region 11 with fail
          rw [← HW6'.out.1, ← HW6'.out.2]
          have C1 : Hid (Calls Try.prog 65 #[.pointer (some ⟨g, 0, none⟩)] w6 fun e w' => e = .returned (.int .i64 v) ∧ ∃ d, RkS w M p2 p6 g y L last a3 d w' ∧ OnlyG w6 w' g) := Lib.hid (by have h := HT6.out.1.num; rw [HEQ.out.2.2.2.1] at h; rw [HEQ.out.2.2.2.2.1, HEQ.out.2.2.2.2.2.1]; exact Calls.mono h fun _ _ ⟨h1, h2, h3⟩ => ⟨h1, _, h2, h3⟩)
          go_wp2_with fail
          refine Calls.mono C1.out ?_
          rintro e w7 ⟨rfl, d3, hT, ho⟩
          have hgy : y ≠ g := by have := HT6.out.1.hi; omega
          have HE7 := Lib.hid ((ho.at (Array.getElem?_eq_some_iff.1 HT6.out.2).1 hgy).trans HT6.out.2)
          have HT7 := Lib.hid hT
          have HGY := Lib.hid hgy
          clear hT ho C1 hgy
          have q2 : w7.cell? ⟨y, 2, none⟩ = some (.int .i64 0) := by rw [cell_of_row _ _ 2 _ _ _ HE7.out]; rfl
          have qf := frozen_of HE7.out
          obtain ⟨w7b, hw7b⟩ : ∃ w7b, w7b = w7.setCell ⟨y, 2, none⟩ (.int .i64 v) := ⟨_, rfl⟩
          have HT7b : Hid (RkS w M p2 p6 g y L last a3 d3 w7b ∧ w7b.heap[y]? = some (.cells #[.int .i64 0, .int .i64 k, .int .i64 v, .int .i64 0, .bool false] 46 (0, 0))) := Lib.hid (by rw [hw7b]; exact ⟨HT7.out.setE, (heap_set w7 y 2 _ HE7.out).trans rfl⟩)
          have HW7b := Lib.hid hw7b
          clear hw7b
          go_upto_region 12 with fail
          rw [← HW7b.out]
          clear q2 qf
          have C1 : Hid (Calls Try.prog 64 #[.pointer (some ⟨g, 0, none⟩)] w7b fun e w' => e = .returned (.int .u64 (q : Int)) ∧ RkS w M p2 p6 g y L last a4 (r4bad bs) w' ∧ OnlyG w7b w' g) := Lib.hid (by have h := HT7b.out.1.count; rw [HEQ.out.2.2.2.2.2.1] at h; rw [HEQ.out.2.2.2.2.2.2.1, HEQ.out.2.2.2.2.2.2.2]; exact h)
          obtain ⟨d4, hd4⟩ : ∃ d4, d4 = r4bad bs := ⟨_, rfl⟩
          rw [← hd4] at C1
          have HDB := Lib.hid hd4
          clear hd4
          go_wp2_with fail
          refine Calls.mono C1.out ?_
          rintro e w8 ⟨rfl, hT, ho⟩
          have HT8 := Lib.hid hT
          have HE8 := Lib.hid ((ho.at (Array.getElem?_eq_some_iff.1 HT7b.out.2).1 HGY.out).trans HT7b.out.2)
          clear hT ho C1
          cases d4 with
          | true =>
            have HE : Hid (R = none) := Lib.hid (by
              have e1 : N - z = (N - (z + 1)) + 1 := by omega
              have h9 := HTS.out.1
              rw [e1, takF_bad (fun h => by have h9 := okE_good h; rw [← HDB.out] at h9; cases h9)] at h9
              rw [HRF.out, ← h9])
            have c1 := HT8.out.bad1
            obtain ⟨za, zb, zf, zz⟩ := HT8.out.zero
            have HZ := Lib.hid (zz (.slice none 0 0) (.int .i64 0))
            clear zz
            go_wp2_with fail
            refine bodyPost_ret (v := .tuple #[.agg #[.slice none 0 0, .int .i64 0], .bool false]) (by simp [results, Try.results22, go_sem, HZ.out.2.1, HZ.out.2.2]) rfl (RtkE.bad HZ.out.1 HE.out)
          | false =>
            by_cases h1 : t < 4
            · have i1 : ¬ (3 : Int) < (t : Int) := by omega
              by_cases h2 : 1 ≤ q
              · have i2 : ¬ (q : Int) < 1 := by omega
                by_cases h3 : q ≤ 4611686018427387903
                · have i3 : ¬ (4611686018427387903 : Int) < (q : Int) := by omega
                  have HOK : Hid (okE bs ∧ t < 4) := Lib.hid ⟨⟨by rw [← HEQ.out.1]; exact h1, by rw [← HEQ.out.2.2.2.2.2.2.1]; exact h2, by rw [← HEQ.out.2.2.2.2.2.2.1]; exact h3⟩, h1⟩
                  have i4 : wrap64 (t : Int) = (t : Int) := by unfold wrap64; omega
                  have i5 : IntKind.i64.wrap (t : Int) = (t : Int) := by rw [IntKind.wrap_i64]; omega
                  have i6 : wrap64 (q : Int) = (q : Int) := by unfold wrap64; omega
                  have i7 : IntKind.i64.wrap (q : Int) = (q : Int) := by rw [IntKind.wrap_i64]; omega
                  have c1 := HT8.out.bad1
                  have q0 : w8.cell? ⟨y, 0, none⟩ = some (.int .i64 0) := by rw [cell_of_row _ _ 0 _ _ _ HE8.out]; rfl
                  have q3 : w8.cell? ⟨y, 3, none⟩ = some (.int .i64 0) := by rw [cell_of_row _ _ 3 _ _ _ HE8.out]; rfl
                  have qf := frozen_of HE8.out
                  clear h1 h2 h3
                  obtain ⟨w12, hw12⟩ : ∃ w12, w12 = (w8.setCell ⟨y, 0, none⟩ (.int .i64 (t : Int))).setCell ⟨y, 3, none⟩ (.int .i64 (q : Int)) := ⟨_, rfl⟩
                  have HT12 : Hid (RkS w M p2 p6 g y L last a4 false w12) := Lib.hid (by rw [hw12]; exact HT8.out.setE.setE)
                  have HE12 : Hid (w12.heap[y]? = some (.cells #[.int .i64 (t : Int), .int .i64 k, .int .i64 v, .int .i64 (q : Int), .bool false] 46 (0, 0))) := Lib.hid (by rw [hw12]; exact (heap_set _ y 3 _ (heap_set w8 y 0 _ HE8.out)).trans rfl)
                  have HW12 := Lib.hid hw12
                  clear hw12
                  go_upto_region 17 with fail
                  rw [← HW12.out]
                  clear i1 i2 i3 i4 i5 i6 i7 c1 q0 q3 qf
                  by_cases hz0 : z = 0
                  · have HLL : Hid (lastLess L (r4e bs) = true) := Lib.hid (by rw [List.eq_nil_of_length_eq_zero (HTS.out.2.1.trans hz0)]; rfl)
                    have hz9 : (z : Int) = 0 := by omega
                    rw [hz9]
                    refine wp_region_noPanic ?_
                    refine wp_region_abs 14 114 [
                      .is (.int .i64 0),
                      .is (.bool false),
                      .is (.bool false),
                      .is undef,
                      .is undef,
                      .is undef,
                      .is undef,
                      .is undef,
                      .is undef,
                      .is undef,
                      .is undef,
                      .is undef,
                      .is undef,
                      .is undef]
                      [72, 73, 74, 75, 76, 77, 78, 79, 80, 81, 82, 83, 84, 85]
                      [[], [0], [1], [2], [3, 2], [2], [5, 2], [4, 6, 2], [7, 2], [8, 2], [2], [10, 2], [9, 11, 2], [12, 2]] (by kernel_rfl) (by rfl) rfl rfl (by kernel_rfl) (fun _ _ _ _ h => h.elim) ?_ ?_
                    · refine ⟨?_, ?_, ?_, ?_, ?_, ?_, ?_, ?_, ?_, ?_, ?_, ?_, ?_, ?_, trivial⟩
                      · intro W2 hw K hK
                        go_simp
                        exact hK _ _ rfl (Below.refl _ _)
                      · intro W2 hw K hK
                        go_simp
                        exact hK _ _ rfl (Below.refl _ _)
                      · intro W2 hw K hK
                        go_simp
                        exact hK _ _ rfl (Below.refl _ _)
                      · intro W2 hw K hK
                        go_simp
                        exact hK _ _ rfl (Below.refl _ _)
                      · intro W2 hw K hK
                        go_simp
                        exact hK _ _ rfl (Below.refl _ _)
                      · intro W2 hw K hK
                        go_simp
                        exact hK _ _ rfl (Below.refl _ _)
                      · intro W2 hw K hK
                        go_simp
                        exact hK _ _ rfl (Below.refl _ _)
                      · intro W2 hw K hK
                        go_simp
                        exact hK _ _ rfl (Below.refl _ _)
                      · intro W2 hw K hK
                        go_simp
                        exact hK _ _ rfl (Below.refl _ _)
                      · intro W2 hw K hK
                        go_simp
                        exact hK _ _ rfl (Below.refl _ _)
                      · intro W2 hw K hK
                        go_simp
                        exact hK _ _ rfl (Below.refl _ _)
                      · intro W2 hw K hK
                        go_simp
                        exact hK _ _ rfl (Below.refl _ _)
                      · intro W2 hw K hK
                        go_simp
                        exact hK _ _ rfl (Below.refl _ _)
                      · intro W2 hw K hK
                        go_simp
                        exact hK _ _ rfl (Below.refl _ _)
                    · intro W2 hw2
                      simp only [Behind]
                      have HB2 := Lib.hid ((Below.refl _ w12).drew.trans hw2)
                      clear hw2
                      simp only [List.drop, Act.put, List.setIfInBounds_toArray, List.set_cons_zero, List.set_cons_succ]
                      go_wp2_with fail
                      refine NoPanic.normal ?_
                      have HSV := Lib.hid (HT12.out.below HB2.out)
                      have HE13 := Lib.hid ((HB2.out.block y (Array.getElem?_eq_some_iff.1 HE12.out).1).trans HE12.out)
                      obtain ⟨vr, hv1, hv2, hv3⟩ := HSV.out.row
                      obtain ⟨A9, c9, rfl⟩ := own_form hv2
                      obtain ⟨n9, hn9⟩ : ∃ n9, n9 = L.length := ⟨_, rfl⟩
                      have HN9 := Lib.hid hn9
                      have HV := Lib.hid (And.intro hv1 (And.intro hv2 hv3))
                      have c60 : W2.cell? ⟨p6, 0, none⟩ = some (.slice A9 n9 c9) := by rw [cell_of_row _ _ 0 _ _ _ hv1, hn9]; rfl
                      have ce0 : W2.cell? ⟨y, 0, none⟩ = some (.int .i64 (t : Int)) := by rw [cell_of_row _ _ 0 _ _ _ HE13.out]; rfl
                      have ce1 : W2.cell? ⟨y, 1, none⟩ = some (.int .i64 k) := by rw [cell_of_row _ _ 1 _ _ _ HE13.out]; rfl
                      have ce2 : W2.cell? ⟨y, 2, none⟩ = some (.int .i64 v) := by rw [cell_of_row _ _ 2 _ _ _ HE13.out]; rfl
                      have ce3 : W2.cell? ⟨y, 3, none⟩ = some (.int .i64 (q : Int)) := by rw [cell_of_row _ _ 3 _ _ _ HE13.out]; rfl
                      have ce4 : W2.cell? ⟨y, 4, none⟩ = some (.bool false) := by rw [cell_of_row _ _ 4 _ _ _ HE13.out]; rfl
                      have HRE : Hid (r4e bs = ⟨t, ⟨k, ⟨v, (q : Int), false⟩⟩⟩) := Lib.hid (by unfold r4e; rw [HEQ.out.1, HEQ.out.2.2.1, HEQ.out.2.2.2.2.1, HEQ.out.2.2.2.2.2.2.1])
                      have HOW : Hid (∀ o, (W2.alloc o).ownsRow M 46 5 (.slice A9 n9 c9) n9 (rowV En.vals L)) := Lib.hid fun o => by have h9 := HV.out.2.1.below ((Below.refl _ W2).alloc (Nat.le_refl _) o); unfold Eno at h9; rw [← HN9.out] at h9; exact h9
                      have HBB : Hid (∀ o, M ≤ (W2.alloc o).heap.size) := Lib.hid fun o => Nat.le_trans HSV.out.hi.2.2.2.1 ((Below.refl _ W2).alloc (Nat.le_refl _) o).size
                      have HRV : Hid (∀ T, Rdv (W2.alloc (.cells #[.int .i64 (t : Int), .int .i64 k, .int .i64 v, .int .i64 (q : Int), .bool false] T)) (some ⟨W2.heap.size, 0, none⟩) 1 5 (r4e bs).vals) := Lib.hid fun T => by have h9 := rdv_freshE W2 (r4e bs) T; rw [HRE.out] at h9 ⊢; exact h9
                      have HNB : Hid (n9 ≤ 4096) := Lib.hid (by rw [HN9.out, HTS.out.2.1]; have := HN4.out; omega)
                      clear hv1 hv2 hv3 hn9
                      have HLT : Hid (takF (N - (z + 1)) a4 (L ++ [r4e bs]) = TF) := Lib.hid (by
                        have e1 : N - z = (N - (z + 1)) + 1 := by omega
                        rw [← HTS.out.1, e1, takF_yes HOK.out.1 HLL.out, HEQ.out.2.2.2.2.2.2.2])
                      go_upto_region 20 with (at_builtin; refine wpList_append_rowg elemEn rfl (.tmp 89) (.tmp 91) rfl M (.slice A9 n9 c9) n9 (rowV En.vals L) rfl (HOW.out _) (some ⟨W2.heap.size, 0, none⟩) 1 1 (r4e bs).vals rfl (HRV.out _) (en1 _) (fun h => by cases h) (by have := HNB.out; unfold maxLen; omega) (by have := HNB.out; omega) (HBB.out _) ?_; intro v' w' ho hg hq; rw [HN9.out] at ho hg hq; obtain ⟨A8, c8, rfl⟩ := own_form ho; have H88 := Lib.hid (HSV.out.push HV.out.1 HV.out.2.1 ho hg hq ⟨by rw [HE13.out]; simp, HV.out.2.2⟩); have y60 : w'.cell? ⟨p6, 0, none⟩ = some (.slice A9 n9 c9) := (by rw [cell_of_row _ _ 0 _ _ _ H88.out.2.1, HN9.out]; rfl); have yf := frozen_of H88.out.2.1; clear ho hg hq)
                      obtain ⟨w14, hw14⟩ : ∃ w14, w14 = w'.setCell ⟨p6, 0, none⟩ (.slice A8 (L.length + 1) c8) := ⟨_, rfl⟩
                      rw [← hw14] at H88
                      rw [← hw14]
                      have HT14 := Lib.hid H88.out.1
                      have HE14 := Lib.hid (H88.out.2.2.trans HE13.out)
                      clear hw14 c60 ce0 ce1 ce2 ce3 ce4 y60 yf
                      obtain ⟨v14, hv1, _, _⟩ := HT14.out.row
                      have ce3 : w14.cell? ⟨y, 3, none⟩ = some (.int .i64 (q : Int)) := by rw [cell_of_row _ _ 3 _ _ _ HE14.out]; rfl
                      have c61 : w14.cell? ⟨p6, 1, none⟩ = some (.int .i64 last) := by rw [cell_of_row _ _ 1 _ _ _ hv1]; rfl
                      have c6f := frozen_of hv1
                      clear hv1
                      by_cases hlq : last < (q : Int)
                      · have HT15 := Lib.hid (HT14.out.putLast (q : Int))
                        go_wp2_with fail
                        go_roundw
                        case rel => exact ⟨z + 1, L ++ [r4e bs], (q : Int), a4, false, y, by go_num, by omega, HLT.out, by rw [List.length_append, HTS.out.2.1]; rfl, by rw [maxQ_snoc, ← HTS.out.2.2, show (r4e bs).x.c.s = (q : Int) by rw [HRE.out]]; omega, HT15.out⟩
                        case measure => simp [intOf]; omega
                      · go_wp2_with fail
                        go_roundw
                        case rel => exact ⟨z + 1, L ++ [r4e bs], last, a4, false, y, by go_num, by omega, HLT.out, by rw [List.length_append, HTS.out.2.1]; rfl, by rw [maxQ_snoc, ← HTS.out.2.2, show (r4e bs).x.c.s = (q : Int) by rw [HRE.out]]; omega, HT14.out⟩
                        case measure => simp [intOf]; omega
                  · obtain ⟨zp, hzp⟩ : ∃ zp, zp = z - 1 := ⟨_, rfl⟩
                    have hzl : zp < L.length := by rw [HTS.out.2.1]; omega
                    obtain ⟨pe, hpe⟩ : ∃ pe, pe = L[zp] := ⟨_, rfl⟩
                    have HZP : Hid ((z : Int) - 1 = (zp : Int) ∧ zp < z) := Lib.hid (by omega)
                    have HLP : Hid (lastLess L (r4e bs) = lessK (pe.t : Int) pe.x.k (t : Int) k) := Lib.hid (by
                      have h9 : L.getLast? = some pe := by
                        rw [List.getLast?_eq_getElem?, HTS.out.2.1, hpe, ← hzp, List.getElem?_eq_getElem hzl]
                      unfold lastLess
                      rw [h9, HEQ.out.1, HEQ.out.2.2.1]
                      rfl)
                    have HLS := Lib.hid (fun (W2 : World) => refLess_any W2 (pe.t : Int) pe.x.k (t : Int) k)
                    obtain ⟨ls, hls⟩ : ∃ ls, ls = lessK (pe.t : Int) pe.x.k (t : Int) k := ⟨_, rfl⟩
                    rw [← hls] at HLP HLS
                    obtain ⟨vr, hv1, hv2, hv3⟩ := HT12.out.row
                    obtain ⟨A9, c9, rfl⟩ := own_form hv2
                    obtain ⟨A9', c9', e9, hr9, _, hc9⟩ := rdv_own hv2
                    injection e9 with e1 _ e3
                    subst e1 e3
                    obtain ⟨b9, o9, rfl, hcl⟩ := Ens.cell (w := w12) (A := A9) (l := L) ⟨rfl, hr9⟩ (by omega)
                    obtain ⟨n9, hn9⟩ : ∃ n9, n9 = L.length := ⟨_, rfl⟩
                    have hzn : zp < n9 := by rw [hn9]; exact hzl
                    have hcz := hcl zp hzl
                    rw [← hpe] at hcz
                    have HCE : Hid (∀ W2, Below w12.drew.heap.size w12.drew W2 → W2.cell? ⟨p6, 0, none⟩ = some (.slice (some ⟨b9, o9, none⟩) n9 c9) ∧ W2.cell? ⟨y, 0, none⟩ = some (.int .i64 (t : Int)) ∧ W2.cell? ⟨y, 1, none⟩ = some (.int .i64 k) ∧ W2.cell? ⟨b9, o9 + zp * 5, none⟩ = some (.int .i64 (pe.t : Int)) ∧ W2.cell? ⟨b9, o9 + zp * 5 + 1, none⟩ = some (.int .i64 pe.x.k)) := Lib.hid fun W2 hw => by
                      have hw3 : Below w12.heap.size w12 W2 := (Below.refl _ _).drew.trans hw
                      have g1 := (hw3.block p6 (Array.getElem?_eq_some_iff.1 hv1).1).trans hv1
                      have g2 := (hw3.block y (Array.getElem?_eq_some_iff.1 HE12.out).1).trans HE12.out
                      exact ⟨by rw [cell_of_row _ _ 0 _ _ _ g1, hn9]; rfl, by rw [cell_of_row _ _ 0 _ _ _ g2]; rfl, by rw [cell_of_row _ _ 1 _ _ _ g2]; rfl, (hw3.cell (World.block_lt_of_cell? _ _ hcz.1)).trans hcz.1, (hw3.cell (World.block_lt_of_cell? _ _ hcz.2.1)).trans hcz.2.1⟩
                    have k1 : (0 : Int) < (z : Int) := by omega
                    have k0 : 0 < z := by omega
                    have k2 : IntKind.i64.wrap (zp : Int) = (zp : Int) := by rw [IntKind.wrap_i64]; have := HN4.out; omega
                    have k3 : wrap64 ((z : Int) - 1) = (zp : Int) := by unfold wrap64; have := HN4.out; omega
                    have k4 : (z : Int) - 1 = (zp : Int) := HZP.out.1
                    have k5 : n9 ≤ 4096 := by rw [hn9, HTS.out.2.1]; have := HN4.out; omega
                    clear hls hv1 hv2 hv3 hr9 hc9 hcl hcz hpe hzp hzl hn9
                    cases ls with
                    | false =>
                      have HE : Hid (R = none) := Lib.hid (by
                        have e1 : N - z = (N - (z + 1)) + 1 := by omega
                        have h9 := HTS.out.1
                        rw [e1, takF_low HLP.out] at h9
                        rw [HRF.out, ← h9])
                      refine wp_region_noPanic ?_
                      refine wp_region_abs 14 114 [
                        .is (.int .i64 (z : Int)),
                        .is (.bool true),
                        .is (.bool true),
                        .is (.pointer (some ⟨p6, 0, none⟩)),
                        .is (.slice (some ⟨b9, o9, none⟩) n9 c9),
                        .is (.int .i64 (z : Int)),
                        .is (.int .i64 (zp : Int)),
                        .is (.pointer (some ⟨b9, o9 + zp * 5, none⟩)),
                        .is (.pointer (some ⟨b9, o9 + zp * 5, none⟩)),
                        .is (.agg #[.int .i64 (pe.t : Int), .int .i64 pe.x.k]),
                        .is (.pointer (some ⟨y, 0, none⟩)),
                        .is (.agg #[.int .i64 (t : Int), .int .i64 k]),
                        .is (.bool false),
                        .is (.bool true)]
                        [72, 73, 74, 75, 76, 77, 78, 79, 80, 81, 82, 83, 84, 85]
                        [[], [0], [1], [2], [3, 2], [2], [5, 2], [4, 6, 2], [7, 2], [8, 2], [2], [10, 2], [9, 11, 2], [12, 2]] (by kernel_rfl) (by rfl) rfl rfl (by kernel_rfl) (fun _ _ _ _ h => h.elim) ?_ ?_
                      · refine ⟨?_, ?_, ?_, ?_, ?_, ?_, ?_, ?_, ?_, ?_, ?_, ?_, ?_, ?_, trivial⟩
                        · intro W2 hw K hK
                          go_simp
                          exact hK _ _ rfl (Below.refl _ _)
                        · intro W2 hw K hK
                          go_simp
                          exact hK _ _ rfl (Below.refl _ _)
                        · intro W2 hw K hK
                          go_simp
                          exact hK _ _ rfl (Below.refl _ _)
                        · intro W2 hw K hK
                          go_simp
                          exact hK _ _ rfl (Below.refl _ _)
                        · intro W2 hw K hK
                          obtain ⟨c6, ce0, ce1, cp0, cp1⟩ := HCE.out W2 hw
                          go_simp
                          exact hK _ _ rfl (Below.refl _ _)
                        · intro W2 hw K hK
                          go_simp
                          exact hK _ _ rfl (Below.refl _ _)
                        · intro W2 hw K hK
                          go_simp
                          exact hK _ _ rfl (Below.refl _ _)
                        · intro W2 hw K hK
                          go_simp
                          exact hK _ _ rfl (Below.refl _ _)
                        · intro W2 hw K hK
                          go_simp
                          exact hK _ _ rfl (Below.refl _ _)
                        · intro W2 hw K hK
                          obtain ⟨c6, ce0, ce1, cp0, cp1⟩ := HCE.out W2 hw
                          go_simp
                          exact hK _ _ rfl (Below.refl _ _)
                        · intro W2 hw K hK
                          go_simp
                          exact hK _ _ rfl (Below.refl _ _)
                        · intro W2 hw K hK
                          obtain ⟨c6, ce0, ce1, cp0, cp1⟩ := HCE.out W2 hw
                          go_simp
                          exact hK _ _ rfl (Below.refl _ _)
                        · intro W2 hw K hK
                          go_simp
                          refine Calls.mono (HLS.out W2) ?_
                          rintro e9 w9 ⟨rfl, hb9⟩
                          exact hK _ _ rfl hb9
                        · intro W2 hw K hK
                          go_simp
                          exact hK _ _ rfl (Below.refl _ _)
                      · intro W2 hw2
                        simp only [Behind]
                        have HB2 := Lib.hid ((Below.refl _ w12).drew.trans hw2)
                        clear hw2
                        simp only [List.drop, Act.put, List.setIfInBounds_toArray, List.set_cons_zero, List.set_cons_succ]
                        go_wp2_with fail
                        refine NoPanic.normal ?_
                        have HX2 := Lib.hid (HT12.out.below HB2.out)
                        obtain ⟨za, zb, zf, zz⟩ := HX2.out.zero
                        have HZ := Lib.hid (zz (.slice none 0 0) (.int .i64 0))
                        clear zz
                        go_wp2_with fail
                        refine bodyPost_ret (v := .tuple #[.agg #[.slice none 0 0, .int .i64 0], .bool false]) (by simp [results, Try.results22, go_sem, HZ.out.2.1, HZ.out.2.2]) rfl (RtkE.bad HZ.out.1 HE.out)
                    | true =>
                      have HLL : Hid (lastLess L (r4e bs) = true) := HLP
                      refine wp_region_noPanic ?_
                      refine wp_region_abs 14 114 [
                        .is (.int .i64 (z : Int)),
                        .is (.bool true),
                        .is (.bool true),
                        .is (.pointer (some ⟨p6, 0, none⟩)),
                        .is (.slice (some ⟨b9, o9, none⟩) n9 c9),
                        .is (.int .i64 (z : Int)),
                        .is (.int .i64 (zp : Int)),
                        .is (.pointer (some ⟨b9, o9 + zp * 5, none⟩)),
                        .is (.pointer (some ⟨b9, o9 + zp * 5, none⟩)),
                        .is (.agg #[.int .i64 (pe.t : Int), .int .i64 pe.x.k]),
                        .is (.pointer (some ⟨y, 0, none⟩)),
                        .is (.agg #[.int .i64 (t : Int), .int .i64 k]),
                        .is (.bool true),
                        .is (.bool false)]
                        [72, 73, 74, 75, 76, 77, 78, 79, 80, 81, 82, 83, 84, 85]
                        [[], [0], [1], [2], [3, 2], [2], [5, 2], [4, 6, 2], [7, 2], [8, 2], [2], [10, 2], [9, 11, 2], [12, 2]] (by kernel_rfl) (by rfl) rfl rfl (by kernel_rfl) (fun _ _ _ _ h => h.elim) ?_ ?_
                      · refine ⟨?_, ?_, ?_, ?_, ?_, ?_, ?_, ?_, ?_, ?_, ?_, ?_, ?_, ?_, trivial⟩
                        · intro W2 hw K hK
                          go_simp
                          exact hK _ _ rfl (Below.refl _ _)
                        · intro W2 hw K hK
                          go_simp
                          exact hK _ _ rfl (Below.refl _ _)
                        · intro W2 hw K hK
                          go_simp
                          exact hK _ _ rfl (Below.refl _ _)
                        · intro W2 hw K hK
                          go_simp
                          exact hK _ _ rfl (Below.refl _ _)
                        · intro W2 hw K hK
                          obtain ⟨c6, ce0, ce1, cp0, cp1⟩ := HCE.out W2 hw
                          go_simp
                          exact hK _ _ rfl (Below.refl _ _)
                        · intro W2 hw K hK
                          go_simp
                          exact hK _ _ rfl (Below.refl _ _)
                        · intro W2 hw K hK
                          go_simp
                          exact hK _ _ rfl (Below.refl _ _)
                        · intro W2 hw K hK
                          go_simp
                          exact hK _ _ rfl (Below.refl _ _)
                        · intro W2 hw K hK
                          go_simp
                          exact hK _ _ rfl (Below.refl _ _)
                        · intro W2 hw K hK
                          obtain ⟨c6, ce0, ce1, cp0, cp1⟩ := HCE.out W2 hw
                          go_simp
                          exact hK _ _ rfl (Below.refl _ _)
                        · intro W2 hw K hK
                          go_simp
                          exact hK _ _ rfl (Below.refl _ _)
                        · intro W2 hw K hK
                          obtain ⟨c6, ce0, ce1, cp0, cp1⟩ := HCE.out W2 hw
                          go_simp
                          exact hK _ _ rfl (Below.refl _ _)
                        · intro W2 hw K hK
                          go_simp
                          refine Calls.mono (HLS.out W2) ?_
                          rintro e9 w9 ⟨rfl, hb9⟩
                          exact hK _ _ rfl hb9
                        · intro W2 hw K hK
                          go_simp
                          exact hK _ _ rfl (Below.refl _ _)
                      clear k0 k1 k2 k3 k4 k5
                      · intro W2 hw2
                        simp only [Behind]
                        have HB2 := Lib.hid ((Below.refl _ w12).drew.trans hw2)
                        clear hw2
                        simp only [List.drop, Act.put, List.setIfInBounds_toArray, List.set_cons_zero, List.set_cons_succ]
                        go_wp2_with fail
                        refine NoPanic.normal ?_
                        have HSV := Lib.hid (HT12.out.below HB2.out)
                        have HE13 := Lib.hid ((HB2.out.block y (Array.getElem?_eq_some_iff.1 HE12.out).1).trans HE12.out)
                        obtain ⟨vr, hv1, hv2, hv3⟩ := HSV.out.row
                        obtain ⟨A9, c9, rfl⟩ := own_form hv2
                        obtain ⟨n9, hn9⟩ : ∃ n9, n9 = L.length := ⟨_, rfl⟩
                        have HN9 := Lib.hid hn9
                        have HV := Lib.hid (And.intro hv1 (And.intro hv2 hv3))
                        have c60 : W2.cell? ⟨p6, 0, none⟩ = some (.slice A9 n9 c9) := by rw [cell_of_row _ _ 0 _ _ _ hv1, hn9]; rfl
                        have ce0 : W2.cell? ⟨y, 0, none⟩ = some (.int .i64 (t : Int)) := by rw [cell_of_row _ _ 0 _ _ _ HE13.out]; rfl
                        have ce1 : W2.cell? ⟨y, 1, none⟩ = some (.int .i64 k) := by rw [cell_of_row _ _ 1 _ _ _ HE13.out]; rfl
                        have ce2 : W2.cell? ⟨y, 2, none⟩ = some (.int .i64 v) := by rw [cell_of_row _ _ 2 _ _ _ HE13.out]; rfl
                        have ce3 : W2.cell? ⟨y, 3, none⟩ = some (.int .i64 (q : Int)) := by rw [cell_of_row _ _ 3 _ _ _ HE13.out]; rfl
                        have ce4 : W2.cell? ⟨y, 4, none⟩ = some (.bool false) := by rw [cell_of_row _ _ 4 _ _ _ HE13.out]; rfl
                        have HRE : Hid (r4e bs = ⟨t, ⟨k, ⟨v, (q : Int), false⟩⟩⟩) := Lib.hid (by unfold r4e; rw [HEQ.out.1, HEQ.out.2.2.1, HEQ.out.2.2.2.2.1, HEQ.out.2.2.2.2.2.2.1])
                        have HOW : Hid (∀ o, (W2.alloc o).ownsRow M 46 5 (.slice A9 n9 c9) n9 (rowV En.vals L)) := Lib.hid fun o => by have h9 := HV.out.2.1.below ((Below.refl _ W2).alloc (Nat.le_refl _) o); unfold Eno at h9; rw [← HN9.out] at h9; exact h9
                        have HBB : Hid (∀ o, M ≤ (W2.alloc o).heap.size) := Lib.hid fun o => Nat.le_trans HSV.out.hi.2.2.2.1 ((Below.refl _ W2).alloc (Nat.le_refl _) o).size
                        have HRV : Hid (∀ T, Rdv (W2.alloc (.cells #[.int .i64 (t : Int), .int .i64 k, .int .i64 v, .int .i64 (q : Int), .bool false] T)) (some ⟨W2.heap.size, 0, none⟩) 1 5 (r4e bs).vals) := Lib.hid fun T => by have h9 := rdv_freshE W2 (r4e bs) T; rw [HRE.out] at h9 ⊢; exact h9
                        have HNB : Hid (n9 ≤ 4096) := Lib.hid (by rw [HN9.out, HTS.out.2.1]; have := HN4.out; omega)
                        clear hv1 hv2 hv3 hn9
                        have HLT : Hid (takF (N - (z + 1)) a4 (L ++ [r4e bs]) = TF) := Lib.hid (by
                          have e1 : N - z = (N - (z + 1)) + 1 := by omega
                          rw [← HTS.out.1, e1, takF_yes HOK.out.1 HLL.out, HEQ.out.2.2.2.2.2.2.2])
                        go_upto_region 20 with (at_builtin; refine wpList_append_rowg elemEn rfl (.tmp 89) (.tmp 91) rfl M (.slice A9 n9 c9) n9 (rowV En.vals L) rfl (HOW.out _) (some ⟨W2.heap.size, 0, none⟩) 1 1 (r4e bs).vals rfl (HRV.out _) (en1 _) (fun h => by cases h) (by have := HNB.out; unfold maxLen; omega) (by have := HNB.out; omega) (HBB.out _) ?_; intro v' w' ho hg hq; rw [HN9.out] at ho hg hq; obtain ⟨A8, c8, rfl⟩ := own_form ho; have H88 := Lib.hid (HSV.out.push HV.out.1 HV.out.2.1 ho hg hq ⟨by rw [HE13.out]; simp, HV.out.2.2⟩); have y60 : w'.cell? ⟨p6, 0, none⟩ = some (.slice A9 n9 c9) := (by rw [cell_of_row _ _ 0 _ _ _ H88.out.2.1, HN9.out]; rfl); have yf := frozen_of H88.out.2.1; clear ho hg hq)
                        obtain ⟨w14, hw14⟩ : ∃ w14, w14 = w'.setCell ⟨p6, 0, none⟩ (.slice A8 (L.length + 1) c8) := ⟨_, rfl⟩
                        rw [← hw14] at H88
                        rw [← hw14]
                        have HT14 := Lib.hid H88.out.1
                        have HE14 := Lib.hid (H88.out.2.2.trans HE13.out)
                        clear hw14 c60 ce0 ce1 ce2 ce3 ce4 y60 yf
                        obtain ⟨v14, hv1, _, _⟩ := HT14.out.row
                        have ce3 : w14.cell? ⟨y, 3, none⟩ = some (.int .i64 (q : Int)) := by rw [cell_of_row _ _ 3 _ _ _ HE14.out]; rfl
                        have c61 : w14.cell? ⟨p6, 1, none⟩ = some (.int .i64 last) := by rw [cell_of_row _ _ 1 _ _ _ hv1]; rfl
                        have c6f := frozen_of hv1
                        clear hv1
                        by_cases hlq : last < (q : Int)
                        · have HT15 := Lib.hid (HT14.out.putLast (q : Int))
                          go_wp2_with fail
                          go_roundw
                          case rel => exact ⟨z + 1, L ++ [r4e bs], (q : Int), a4, false, y, by go_num, by omega, HLT.out, by rw [List.length_append, HTS.out.2.1]; rfl, by rw [maxQ_snoc, ← HTS.out.2.2, show (r4e bs).x.c.s = (q : Int) by rw [HRE.out]]; omega, HT15.out⟩
                          case measure => simp [intOf]; omega
                        · go_wp2_with fail
                          go_roundw
                          case rel => exact ⟨z + 1, L ++ [r4e bs], last, a4, false, y, by go_num, by omega, HLT.out, by rw [List.length_append, HTS.out.2.1]; rfl, by rw [maxQ_snoc, ← HTS.out.2.2, show (r4e bs).x.c.s = (q : Int) by rw [HRE.out]]; omega, HT14.out⟩
                          case measure => simp [intOf]; omega
                · have i3 : (4611686018427387903 : Int) < (q : Int) := by omega
                  have HE : Hid (R = none) := Lib.hid (by
                    have e1 : N - z = (N - (z + 1)) + 1 := by omega
                    have h9 := HTS.out.1
                    rw [e1, takF_bad (fun h => h3 (by rw [HEQ.out.2.2.2.2.2.2.1]; exact h.2.2))] at h9
                    rw [HRF.out, ← h9])
                  have c1 := HT8.out.bad1
                  obtain ⟨za, zb, zf, zz⟩ := HT8.out.zero
                  have HZ := Lib.hid (zz (.slice none 0 0) (.int .i64 0))
                  clear zz
                  go_wp2_with fail
                  refine bodyPost_ret (v := .tuple #[.agg #[.slice none 0 0, .int .i64 0], .bool false]) (by simp [results, Try.results22, go_sem, HZ.out.2.1, HZ.out.2.2]) rfl (RtkE.bad HZ.out.1 HE.out)
              · have i2 : (q : Int) < 1 := by omega
                have HE : Hid (R = none) := Lib.hid (by
                  have e1 : N - z = (N - (z + 1)) + 1 := by omega
                  have h9 := HTS.out.1
                  rw [e1, takF_bad (fun h => h2 (by rw [HEQ.out.2.2.2.2.2.2.1]; exact h.2.1))] at h9
                  rw [HRF.out, ← h9])
                have c1 := HT8.out.bad1
                obtain ⟨za, zb, zf, zz⟩ := HT8.out.zero
                have HZ := Lib.hid (zz (.slice none 0 0) (.int .i64 0))
                clear zz
                go_wp2_with fail
                refine bodyPost_ret (v := .tuple #[.agg #[.slice none 0 0, .int .i64 0], .bool false]) (by simp [results, Try.results22, go_sem, HZ.out.2.1, HZ.out.2.2]) rfl (RtkE.bad HZ.out.1 HE.out)
            · have i1 : (3 : Int) < (t : Int) := by omega
              have HE : Hid (R = none) := Lib.hid (by
                have e1 : N - z = (N - (z + 1)) + 1 := by omega
                have h9 := HTS.out.1
                rw [e1, takF_bad (fun h => h1 (by rw [HEQ.out.1]; exact h.1))] at h9
                rw [HRF.out, ← h9])
              have c1 := HT8.out.bad1
              obtain ⟨za, zb, zf, zz⟩ := HT8.out.zero
              have HZ := Lib.hid (zz (.slice none 0 0) (.int .i64 0))
              clear zz
              go_wp2_with fail
              refine bodyPost_ret (v := .tuple #[.agg #[.slice none 0 0, .int .i64 0], .bool false]) (by simp [results, Try.results22, go_sem, HZ.out.2.1, HZ.out.2.2]) rfl (RtkE.bad HZ.out.1 HE.out)
      · obtain rfl : z = N := by omega
        have HTN : Hid (TF = some (L, bs)) := Lib.hid (by rw [← HTS.out.1, Nat.sub_self]; rfl)
        have HEM := Lib.hid (fun h : bad = true => (show bs = [] by have h9 := HT.out.rd; rw [h] at h9; exact h9.empty))
        have HBY := Lib.hid HT.out.byte
        cases bs with
        | nil =>
          have HE : Hid (R = none) := Lib.hid (by rw [HRF.out, HTN.out]; exact if_neg (by decide))
          rw [show byteT [] = 0 from rfl] at HBY
          go_wp2_with fail
          refine Calls.mono HBY.out ?_
          rintro e w4 ⟨rfl, hT4⟩
          have HT4 := Lib.hid hT4
          clear hT4
          obtain ⟨za, zb, zf, zz⟩ := HT4.out.zero
          have HZ := Lib.hid (zz (.slice none 0 0) (.int .i64 0))
          clear zz
          go_wp2_with fail
          refine bodyPost_ret (v := .tuple #[.agg #[.slice none 0 0, .int .i64 0], .bool false]) (by simp [results, Try.results22, go_sem, HZ.out.2.1, HZ.out.2.2]) rfl (RtkE.bad HZ.out.1 HE.out)
        | cons x rest =>
          obtain rfl : bad = false := by
            cases bad with
            | false => rfl
            | true => have := HEM.out rfl; cases this
          rw [show byteT (x :: rest) = x from rfl, show (x :: rest).drop 1 = rest from rfl, show (false || decide ((x :: rest).length = 0)) = false by simp] at HBY
          by_cases hy : x = 83
          · subst hy
            cases rest with
            | nil =>
              have HE : Hid (R = some L) := Lib.hid (by rw [HRF.out, HTN.out]; exact if_pos rfl)
              go_wp2_with fail
              refine Calls.mono HBY.out ?_
              rintro e w4 ⟨rfl, hT4⟩
              have HT4 := Lib.hid hT4
              clear hT4
              have HDN := Lib.hid (mdone_any g g [] false w4 HT4.out.rd)
              rw [show (!false && decide (([] : List Nat) = [])) = true from rfl] at HDN
              obtain ⟨vr, hv1, hv2, hv3⟩ := HT4.out.row
              obtain ⟨A9, c9, rfl⟩ := own_form hv2
              obtain ⟨n9, hn9⟩ : ∃ n9, n9 = L.length := ⟨_, rfl⟩
              rw [← hn9] at hv1
              have HFI := Lib.hid (HT4.out.fin hv1)
              have c60 : w4.cell? ⟨p6, 0, none⟩ = some (.slice A9 n9 c9) := by rw [cell_of_row _ _ 0 _ _ _ hv1]; rfl
              have c61 : w4.cell? ⟨p6, 1, none⟩ = some (.int .i64 last) := by rw [cell_of_row _ _ 1 _ _ _ hv1]; rfl
              obtain ⟨za, zb, zf, zz⟩ := HT4.out.zero
              have HZ := Lib.hid (zz (.slice A9 n9 c9) (.int .i64 last))
              clear zz hv1 hv2 hv3 hn9
              go_wp2_with fail
              refine Calls.mono HDN.out ?_
              rintro e w5 ⟨rfl, rfl⟩
              go_wp2_with fail
              refine bodyPost_ret (v := .tuple #[.agg #[.slice A9 n9 c9, .int .i64 last], .bool true]) (by simp [results, Try.results22, go_sem, HZ.out.2.1, HZ.out.2.2]) rfl ?_
              rw [HE.out]
              refine ⟨HZ.out.1, _, _, _, _, rfl, fun l hl => ?_⟩
              have hl2 : L = l := Option.some.inj hl
              rw [← hl2]
              obtain ⟨f1, f2, f3⟩ := HFI.out (.slice A9 n9 c9) (.int .i64 last)
              exact ⟨f1, HTS.out.2.2, f2, f3⟩
            | cons x2 r2 =>
              have HE : Hid (R = none) := Lib.hid (by rw [HRF.out, HTN.out]; exact if_neg (by simp))
              go_wp2_with fail
              refine Calls.mono HBY.out ?_
              rintro e w4 ⟨rfl, hT4⟩
              have HT4 := Lib.hid hT4
              clear hT4
              have HDN := Lib.hid (mdone_any g g (x2 :: r2) false w4 HT4.out.rd)
              rw [show (!false && decide ((x2 :: r2) = [])) = false by simp] at HDN
              obtain ⟨za, zb, zf, zz⟩ := HT4.out.zero
              have HZ := Lib.hid (zz (.slice none 0 0) (.int .i64 0))
              clear zz
              go_wp2_with fail
              refine Calls.mono HDN.out ?_
              rintro e w5 ⟨rfl, rfl⟩
              go_wp2_with fail
              refine bodyPost_ret (v := .tuple #[.agg #[.slice none 0 0, .int .i64 0], .bool false]) (by simp [results, Try.results22, go_sem, HZ.out.2.1, HZ.out.2.2]) rfl (RtkE.bad HZ.out.1 HE.out)
          · have hy2 : ((x : Int) != 83) = true := by
              have : ¬ (x : Int) = 83 := by omega
              simpa using this
            have HE : Hid (R = none) := Lib.hid (by rw [HRF.out, HTN.out]; exact if_neg (by simp [hy]))
            clear hy
            go_wp2_with fail
            refine Calls.mono HBY.out ?_
            rintro e w4 ⟨rfl, hT4⟩
            have HT4 := Lib.hid hT4
            clear hT4
            obtain ⟨za, zb, zf, zz⟩ := HT4.out.zero
            have HZ := Lib.hid (zz (.slice none 0 0) (.int .i64 0))
            clear zz
            go_wp2_with fail
            refine bodyPost_ret (v := .tuple #[.agg #[.slice none 0 0, .int .i64 0], .bool false]) (by simp [results, Try.results22, go_sem, HZ.out.2.1, HZ.out.2.2]) rfl (RtkE.bad HZ.out.1 HE.out)
end Go.Proofs.Ytejpjbmbcdgomaa
