/- VSrch, DHeld: put together. -/
import Derived.Test.YtejpjbmbcdgomaaPt36
import Derived.Test.YtejpjbmbcdgomaaPt31
import Derived.Test.YtejpjbmbcdgomaaPt33
import Derived.Test.YtejpjbmbcdgomaaPt32
import Derived.OrdersHeld
import Derived.StillTail
import Derived.Below
/- Where a key stands among the notes. Written by gen_vnote.py. -/
namespace Go.Proofs.Ytejpjbmbcdgomaa
set_option maxRecDepth 100000
open Go.RowKit

theorem eq_stepK (d : Nat) (w : World) (xs ys : Array Value) (f : Field) (fs : List Field) (a b : Int) (r : Bool) (h3 : f.type = 3) (hn : f.name ≠ "_") (hx : (part 3 xs f.offset).run Try.prog w = .ok (.int .i64 a) w) (hy : (part 3 ys f.offset).run Try.prog w = .ok (.int .i64 b) w)
    (hr : (Op.eqFields (d + 1) xs ys fs).run Try.prog w = .ok r w) : (Op.eqFields (d + 1) xs ys (f :: fs)).run Try.prog w = .ok (decide (a = b) && r) w := by
  unfold Op.eqFields
  rw [if_pos hn, h3]
  by_cases h : a = b <;> simp [hx, hy, hr, run_equalIn_int w d 3 .i64 .i64 _ _ Try.underlying3, h]
theorem part_intK (w : World) (xs : Array Value) (k : Nat) (a : Int) (h : xs[k]? = some (.int .i64 a)) : (part 3 xs k).run Try.prog w = .ok (.int .i64 a) w := by
  simp [go_sem, part, h]
theorem fieldsKey : (Try.prog.fieldsOf 42).toList = [{ name := "Table", type := 3, offset := 0, embedded := false, tag := "", pkgPath := "", byteOffset := 0 }, { name := "K", type := 3, offset := 1, embedded := false, tag := "", pkgPath := "", byteOffset := 8 }] := by kernel_rfl
/-- Are two keys the same? -/
theorem eql_keyK (w : World) (t k t2 k2 : Int) : (binOp .eql 42 (.agg #[.int .i64 t, .int .i64 k]) (.agg #[.int .i64 t2, .int .i64 k2])).run Try.prog w = .ok (.bool (decide (t = t2) && decide (k = k2))) w := by
  have h : (Op.equalIn (9998 + 2) 42 (.agg #[.int .i64 t, .int .i64 k]) (.agg #[.int .i64 t2, .int .i64 k2])).run Try.prog w = .ok (decide (t = t2) && (decide (k = k2) && true)) w := by
    rw [run_equalIn_struct w (9998 + 1) 42 _ _ Try.underlying42 (by kernel_rfl), fieldsKey]
    refine eq_stepK _ w _ _ _ _ _ _ _ rfl (by decide) (part_intK w _ _ _ rfl) (part_intK w _ _ _ rfl) ?_
    refine eq_stepK _ w _ _ _ _ _ _ _ rfl (by decide) (part_intK w _ _ _ rfl) (part_intK w _ _ _ rfl) ?_
    simp [Op.eqFields]
  rw [Bool.and_true] at h
  rw [run_eql_struct, show (10000 : Nat) = 9998 + 2 from rfl, h]
  rfl
theorem Nts.cell {w : World} {A : Option Addr} {l : List Nt} (h : Nts w A l) (hn : 0 < l.length) : ∃ b off, A = some ⟨b, off, none⟩ ∧ ∀ q (hq : q < l.length), w.cell? ⟨b, off + q * 6, none⟩ = some (.int .i64 (l[q].e.t : Int)) ∧ w.cell? ⟨b, off + q * 6 + 1, none⟩ = some (.int .i64 l[q].e.x.k) ∧ w.cell? ⟨b, off + q * 6 + 2, none⟩ = some (.int .i64 l[q].e.x.c.v) ∧ w.cell? ⟨b, off + q * 6 + 3, none⟩ = some (.int .i64 l[q].e.x.c.s) ∧ w.cell? ⟨b, off + q * 6 + 4, none⟩ = some (.bool l[q].e.x.c.dead) ∧ w.cell? ⟨b, off + q * 6 + 5, none⟩ = some (.bool l[q].live) := by
  obtain ⟨b, off, e, hc⟩ := RowAt.cells h Nt.vlen hn
  exact ⟨b, off, e, fun q hq => ⟨hc q hq 0 _ (by omega) rfl, hc q hq 1 _ (by omega) rfl, hc q hq 2 _ (by omega) rfl, hc q hq 3 _ (by omega) rfl, hc q hq 4 _ (by omega) rfl, hc q hq 5 _ (by omega) rfl⟩⟩
/-- What note's closure reads: the boxes of x and of the key. -/
structure NcI (w : World) (xb bx bk : Nat) (t k : Int) : Prop where
  x : w.cell? ⟨bx, 0, none⟩ = some (.pointer (some ⟨xb, 0, none⟩))
  k0 : w.cell? ⟨bk, 0, none⟩ = some (.int .i64 t)
  k1 : w.cell? ⟨bk, 1, none⟩ = some (.int .i64 k)
theorem NcI.below {w w1 : World} {xb bx bk : Nat} {t k : Int} (h : NcI w xb bx bk t k) (hb : Below w.heap.size w w1) : NcI w1 xb bx bk t k :=
  ⟨(hb.cell (World.block_lt_of_cell? w _ h.x)).trans h.x, (hb.cell (World.block_lt_of_cell? w _ h.k0)).trans h.k0, (hb.cell (World.block_lt_of_cell? w _ h.k1)).trans h.k1⟩
set_option maxHeartbeats 4000000 in
theorem note1_any {w : World} {xb bx bk : Nat} {so : Option Addr} {ct ck t k : Int} {nA : Option Addr} {nc : Nat} {tv : Value} {d : Bool} {NS : List Nt} (h : SwM w xb so ct ck (.slice nA NS.length nc) tv d) (hN : Nts w nA NS) (hc : NcI w xb bx bk t k) (i : Nat) (hi : i < NS.length) :
    Calls Try.prog 104 #[.int .i64 (i : Int), .pointer (some ⟨bx, 0, none⟩), .pointer (some ⟨bk, 0, none⟩)] w fun e w' => e = .returned (.bool (!lessK NS[i].e.t NS[i].e.x.k t k)) ∧ Below w.heap.size w w' := by
  obtain ⟨b, off, rfl, hcl⟩ := Nts.cell hN (by omega)
  obtain ⟨x0, x1, _⟩ := hcl i hi
  obtain ⟨y, hy⟩ : ∃ y, y = NS[i] := ⟨_, rfl⟩
  obtain ⟨n, hn⟩ : ∃ n, n = NS.length := ⟨_, rfl⟩
  rw [← hy] at x0 x1 ⊢
  rw [← hn] at h hi
  have HCE : Hid (∀ W2, Below w.drew.heap.size w.drew W2 → W2.cell? ⟨bx, 0, none⟩ = some (.pointer (some ⟨xb, 0, none⟩)) ∧ W2.cell? ⟨bk, 0, none⟩ = some (.int .i64 t) ∧ W2.cell? ⟨bk, 1, none⟩ = some (.int .i64 k) ∧ W2.cell? ⟨xb, 3, none⟩ = some (.slice (some ⟨b, off, none⟩) n nc) ∧ W2.cell? ⟨b, off + i * 6, none⟩ = some (.int .i64 (y.e.t : Int)) ∧ W2.cell? ⟨b, off + i * 6 + 1, none⟩ = some (.int .i64 y.e.x.k)) := Lib.hid fun W2 hw => by
    have hb2 : Below w.heap.size w W2 := (Below.refl _ _).drew.trans hw
    have h9 := NcI.below hc hb2
    exact ⟨h9.x, h9.k0, h9.k1, (SwM.at (SwM.below h hb2)).2.2.2.1, (hb2.cell (World.block_lt_of_cell? w _ x0)).trans x0, (hb2.cell (World.block_lt_of_cell? w _ x1)).trans x1⟩
  clear h hN hc hcl hy hn x0 x1
  go_enter Try.func104, Try.ntmps104
  go_upto_region 1 with fail
  refine wp_region_noPanic ?_
  refine wp_region_abs 12 17 [
    .is (.pointer (some ⟨xb, 0, none⟩)),
    .is (.pointer (some ⟨xb, 0, none⟩)),
    .is (.pointer (some ⟨xb, 3, none⟩)),
    .is (.slice (some ⟨b, off, none⟩) n nc),
    .is (.int .i64 (i : Int)),
    .is (.pointer (some ⟨b, off + i * 6, none⟩)),
    .is (.pointer (some ⟨b, off + i * 6, none⟩)),
    .is (.pointer (some ⟨b, off + i * 6, none⟩)),
    .is (.agg #[.int .i64 (y.e.t : Int), .int .i64 y.e.x.k]),
    .is (.agg #[.int .i64 t, .int .i64 k]),
    .is (.bool (lessK (y.e.t : Int) y.e.x.k t k)),
    .is (.bool (!lessK (y.e.t : Int) y.e.x.k t k))]
    [5, 6, 7, 8, 9, 10, 11, 12, 13, 14, 15, 16]
    [[], [0], [1], [2], [], [3, 4], [5], [6], [7], [], [8, 9], [10]] (by kernel_rfl) (by rfl) rfl rfl (by kernel_rfl) (fun _ _ _ _ h => h.elim) ?_ ?_
  · refine ⟨?_, ?_, ?_, ?_, ?_, ?_, ?_, ?_, ?_, ?_, ?_, ?_, trivial⟩
    · intro W2 hw K hK
      obtain ⟨s0, s1, s2, s3, s4, s5⟩ := HCE.out W2 hw
      go_simp
      exact hK _ _ rfl (Below.refl _ _)
    · intro W2 hw K hK
      go_simp
      exact hK _ _ rfl (Below.refl _ _)
    · intro W2 hw K hK
      go_simp
      exact hK _ _ rfl (Below.refl _ _)
    · intro W2 hw K hK
      obtain ⟨s0, s1, s2, s3, s4, s5⟩ := HCE.out W2 hw
      go_simp
      exact hK _ _ rfl (Below.refl _ _)
    · intro W2 hw K hK
      go_simp
      exact hK _ _ rfl (Below.refl _ _)
    · intro W2 hw K hK
      go_simp
      exact hK _ _ rfl (Below.refl _ _)
    · intro W2 hw K hK
      go_simp
      exact hK _ _ rfl (Below.refl _ _)
    · intro W2 hw K hK
      go_simp
      exact hK _ _ rfl (Below.refl _ _)
    · intro W2 hw K hK
      obtain ⟨s0, s1, s2, s3, s4, s5⟩ := HCE.out W2 hw
      go_simp
      exact hK _ _ rfl (Below.refl _ _)
    · intro W2 hw K hK
      obtain ⟨s0, s1, s2, s3, s4, s5⟩ := HCE.out W2 hw
      go_simp
      exact hK _ _ rfl (Below.refl _ _)
    · intro W2 hw K hK
      go_simp
      refine Calls.mono (flass_any W2 _ _ _ _) ?_
      rintro e9 w9 ⟨rfl, hb9⟩
      exact hK _ _ rfl hb9
    · intro W2 hw K hK
      go_simp
      exact hK _ _ rfl (Below.refl _ _)
  · intro W2 hw2
    simp only [Behind]
    have hb2 := Lib.hid ((Below.refl _ w).drew.trans hw2)
    clear hw2
    simp only [List.drop, Act.put, List.setIfInBounds_toArray, List.set_cons_zero, List.set_cons_succ]
    go_wp2_with fail
    refine NoPanic.normal ?_
    go_wp2_with fail
    go_ret
    exact ⟨rfl, hb2.out⟩
/-- Where a key stands among the notes. -/
def posN (t k : Int) (NS : List Nt) : Nat := (NS.takeWhile fun x => lessK x.e.t x.e.x.k t k).length
theorem posN_le (t k : Int) (NS : List Nt) : posN t k NS ≤ NS.length := (List.takeWhile_sublist _).length_le
theorem posN_lt {t k : Int} : ∀ {NS : List Nt} {j : Nat} (hj : j < NS.length), j < posN t k NS → lessK NS[j].e.t NS[j].e.x.k t k = true
  | [], _, hj, _ => by cases hj
  | x :: NS, j, hj, h => by
    unfold posN at h
    rw [List.takeWhile_cons] at h
    by_cases hx : lessK x.e.t x.e.x.k t k = true
    · rw [if_pos hx] at h
      cases j with
      | zero => exact hx
      | succ j => exact posN_lt (NS := NS) (j := j) (by simpa using hj) (by unfold posN; simpa using h)
    · rw [if_neg hx] at h
      simp at h
theorem posN_eq {t k : Int} : ∀ {NS : List Nt} {p : Nat}, p ≤ NS.length → (∀ j (hj : j < NS.length), j < p → lessK NS[j].e.t NS[j].e.x.k t k = true) → (∀ hp : p < NS.length, lessK NS[p].e.t NS[p].e.x.k t k = false) → posN t k NS = p
  | [], p, h, _, _ => by have : p = 0 := by simpa using h
                         subst this; rfl
  | x :: NS, 0, _, _, h => by
    have h0 : lessK (x.e.t : Int) x.e.x.k t k = false := h (by simp)
    unfold posN
    rw [List.takeWhile_cons, if_neg (by rw [h0]; decide)]
    rfl
  | x :: NS, p + 1, hp, h1, h2 => by
    have h0 : lessK (x.e.t : Int) x.e.x.k t k = true := h1 0 (by simp) (by omega)
    unfold posN
    rw [List.takeWhile_cons, if_pos h0, List.length_cons]
    have := posN_eq (NS := NS) (p := p) (by simpa using hp) (fun j hj hjp => h1 (j + 1) (by simpa using hj) (by omega)) (fun hp => h2 (by simpa using hp))
    unfold posN at this
    rw [this]
def lessN (a b : Nt) : Bool := lessK a.e.t a.e.x.k b.e.t b.e.x.k
abbrev UpN (l : List Nt) : Prop := l.Pairwise fun a b => lessN a b = true
theorem lessK_tr {t k t2 k2 t3 k3 : Int} (h : lessK t k t2 k2 = true) (h2 : lessK t2 k2 t3 k3 = true) : lessK t k t3 k3 = true := by
  unfold lessK at *
  simp only [Bool.or_eq_true, decide_eq_true_eq, Bool.and_eq_true] at *
  omega
set_option maxHeartbeats 4000000 in
theorem searchN_any {w : World} {xb bx bk : Nat} {so : Option Addr} {ct ck t k : Int} {nA : Option Addr} {nc : Nat} {tv : Value} {d : Bool} {NS : List Nt} (h : SwM w xb so ct ck (.slice nA NS.length nc) tv d) (hN : Nts w nA NS) (hc : NcI w xb bx bk t k) (hl : NS.length ≤ 100000) (hu : UpN NS) :
    Calls Try.prog 103 #[.int .i64 (NS.length : Int), .func (.func 104) #[] #[.pointer (some ⟨bx, 0, none⟩), .pointer (some ⟨bk, 0, none⟩)]] w fun e w' => e = .returned (.int .i64 (posN t k NS : Int)) ∧ Below w.heap.size w w' := by
  have HF : Hid (∀ W, Below w.heap.size w W → ∀ (i : Nat) (hi : i < NS.length), Calls Try.prog 104 #[.int .i64 (i : Int), .pointer (some ⟨bx, 0, none⟩), .pointer (some ⟨bk, 0, none⟩)] W fun e w' => e = .returned (.bool (!lessK NS[i].e.t NS[i].e.x.k t k)) ∧ Below W.heap.size W w') := Lib.hid fun W hb i hi => note1_any (SwM.below h hb) (RowAt.below hN hb) (hc.below hb) i hi
  obtain ⟨n, hn⟩ : ∃ n, n = NS.length := ⟨_, rfl⟩
  have HN := Lib.hid (And.intro hn hu)
  obtain ⟨P, hP⟩ : ∃ P, P = posN t k NS := ⟨_, rfl⟩
  have HP := Lib.hid hP
  rw [← hn] at hl ⊢
  rw [← hP]
  clear h hN hc hn hP hu
  go_enter Try.func103, Try.ntmps103
  go_wp2_with fail
  go_loopw [5, 6, 7, 9, 10, 11, 12, 13, 14, 15, 16, 17, 18, 19, 20, 21, 22, 23, 24] (fun lx hx _ _ _ _ _ _ _ _ _ _ _ _ _ _ _ _ _ wr => ∃ a b : Nat, lx = .int .i64 (a : Int) ∧ hx = .int .i64 (b : Int) ∧ a ≤ b ∧ b ≤ n ∧ (∀ j (hj : j < NS.length), j < a → lessK NS[j].e.t NS[j].e.x.k t k = true) ∧ (∀ hp : b < NS.length, lessK NS[b].e.t NS[b].e.x.k t k = false) ∧ Below w.heap.size w wr) (fun lx hx _ _ _ _ _ _ _ _ _ _ _ _ _ _ _ _ _ wr => (intOf hx).toNat - (intOf lx).toNat)
  case atStart => exact ⟨0, n, rfl, rfl, Nat.zero_le _, Nat.le_refl _, (fun j _ h => absurd h (Nat.not_lt_zero _)), (fun h => absurd h (by have := HN.out.1; omega)), Below.refl _ _⟩
  case round =>
    obtain ⟨a, b, rfl, rfl, hab, hbn, hla, hlb, hbel⟩ := hrel
    have HB := Lib.hid (And.intro hbel (And.intro hla hlb))
    clear hbel hla hlb
    by_cases hlt : a < b
    · obtain ⟨m, hm⟩ : ∃ m, m = (a + b) / 2 := ⟨_, rfl⟩
      have hmm : ((a : Int) + (b : Int)) / 2 = (m : Int) := by omega
      have hmn : m < n := by omega
      have hml : m < NS.length := by have := HN.out.1; omega
      have HC := Lib.hid (HF.out wr HB.out.1 m hml)
      obtain ⟨r, hr⟩ : ∃ r, r = lessK NS[m].e.t NS[m].e.x.k t k := ⟨_, rfl⟩
      rw [← hr] at HC
      have HR := Lib.hid hr
      have HMM := Lib.hid hmm
      have HM := Lib.hid (And.intro hm hml)
      clear hmm hm hr
      go_upto_region 4 with fail
      rw [HMM.out]
      go_wp2_with fail
      refine Calls.mono HC.out ?_
      rintro e w1 ⟨rfl, b1⟩
      have HB1 := Lib.hid (HB.out.1.trans (b1.mono HB.out.1.size))
      clear b1
      cases r with
      | true =>
        go_wp2_with fail
        go_roundw
        case rel =>
          refine ⟨m + 1, b, by go_num, rfl, by have := HM.out.1; omega, hbn, fun j hj hjm => ?_, HB.out.2.2, HB1.out⟩
          by_cases e : j = m
          · subst e; exact HR.out.symm
          · have hu := HN.out.2
            have h1 := (List.pairwise_iff_getElem.1 hu) j m hj HM.out.2 (by omega)
            exact lessK_tr h1 HR.out.symm
        case measure => have := HM.out.1; simp [intOf]; omega
      | false =>
        go_wp2_with fail
        go_roundw
        case rel => exact ⟨a, m, rfl, rfl, by have := HM.out.1; omega, by have := HM.out.1; omega, HB.out.2.1, fun _ => HR.out.symm, HB1.out⟩
        case measure => have := HM.out.1; simp [intOf]; omega
    · obtain rfl : b = a := by omega
      have hE : P = b := by rw [HP.out]; exact posN_eq (by have := HN.out.1; omega) HB.out.2.1 HB.out.2.2
      have HE := Lib.hid hE
      clear hE
      go_wp2_with fail
      go_ret
      exact ⟨by rw [HE.out]; rfl, HB.out.1⟩
end Go.Proofs.Ytejpjbmbcdgomaa

/- A region that draws its order: what reads cells that stand till the last operation is taken first. -/
namespace Go.Proofs.Ytejpjbmbcdgomaa
open Go

section
variable {P : Program} {ops : Array Oper} {Q : Exit → Act → World → Prop} {md : Region.Mode} {S : World → Prop} {z : Nat}
/-- Whatever order is picked from here on; S holds behind each operation but number z. -/
def wpAnyZ (P : Program) (md : Region.Mode) (ops : Array Oper) (Q : Exit → Act → World → Prop) (S : World → Prop) (z : Nat) : Nat → Array Bool → Act → World → Prop
  | 0, listed, a, w => Region.ready md ops listed = [] ∧ Q .normal a w
  | fuel + 1, listed, a, w =>
    (Region.ready md ops listed = [] → Q .normal a w) ∧
    ∀ i ∈ Region.ready md ops listed, wpOp P ops Q i (fun a' w' => (i ≠ z → S w') ∧ wpAnyZ P md ops Q S z fuel (listed.setIfInBounds i true) a' w') a w
theorem wpAny_of_z : ∀ (fuel : Nat) (listed : Array Bool) (a : Act) (w : World), wpAnyZ P md ops Q S z fuel listed a w → wpAny P md ops Q fuel listed a w
  | 0, _, _, _, h => h
  | fuel + 1, _, _, _, h => ⟨h.1, fun i hi => wpOp_mono (fun a' w' h' => wpAny_of_z fuel _ a' w' h'.2) (h.2 i hi)⟩
/-- What is listed has what it waits for listed. -/
def Closed (md : Region.Mode) (ops : Array Oper) (listed : Array Bool) : Prop :=
  ∀ j oj, ops[j]? = some oj → listed.getD j false = true → ∀ e ∈ oj.after, Region.binds md e = true → listed.getD e.on false = true
def closedB (md : Region.Mode) (ops : Array Oper) (listed : Array Bool) : Bool :=
  (List.range ops.size).all fun j => !listed.getD j false || match ops[j]? with
    | some o => o.after.all fun e => !Region.binds md e || listed.getD e.on false
    | none => true
theorem closed_of {listed : Array Bool} (h : closedB md ops listed = true) : Closed md ops listed := fun j oj hj hl e he hb => by
  have h1 := List.all_eq_true.1 h j (List.mem_range.2 (Array.getElem?_eq_some_iff.1 hj).1)
  simp only [hl, hj, Bool.not_true, Bool.false_or] at h1
  have h2 := (Array.all_eq_true_iff_forall_mem.1 h1) e he
  simpa [hb] using h2
theorem Closed.set {listed : Array Bool} {i : Nat} (h : Closed md ops listed) (hi : i ∈ Region.ready md ops listed) : Closed md ops (listed.setIfInBounds i true) := by
  obtain ⟨_, oi, hoi, hall⟩ := mem_ready.1 hi
  intro j oj hj hl e he hb
  by_cases hij : i = j
  · subst hij
    have : oj = oi := Option.some.inj (hj.symm.trans hoi)
    subst this
    exact getD_set_true (hall e he hb)
  · rw [getD_set_ne false hij] at hl
    exact getD_set_true (h j oj hj hl e he hb)
/-- Number z never comes up while i has not. -/
def Never (md : Region.Mode) (ops : Array Oper) (z i : Nat) : Prop := ∀ listed, Closed md ops listed → listed.getD i false = false → z ∉ Region.ready md ops listed
theorem never1 {i : Nat} (hz : Region.waitsFor md ops z i = true) : Never md ops z i := fun listed _ hl hr => by
  obtain ⟨o, ho, e, he, hb, hon⟩ := Region.waitsFor_spec hz
  obtain ⟨_, o', ho', hall⟩ := mem_ready.1 hr
  have : o = o' := Option.some.inj (ho.symm.trans ho')
  subst this
  have h := hall e he hb
  rw [hon, hl] at h
  cases h
theorem wpAnyZ_first {i : Nat} {oi : Oper} {v : Value} (hi : ops[i]? = some oi) (hsel : ∀ (j : Nat) (o : Oper) cs b, ops[j]? = some o → o.op ≠ .select cs b)
    (hQ : ∀ c a w, Q (.panic c) (a.put oi.dst v) w → Q (.panic c) a w) (hiz : i ≠ z) (hz : Never md ops z i) :
    ∀ (fuel : Nat) (listed : Array Bool) (a : Act) (w : World),
      (∀ j oj, ops[j]? = some oj → j ≠ i → listed.getD j true = false → (∀ e ∈ oj.after, Region.binds md e = true → e.on ≠ i) → oi.apart ops oj = true) →
      Closed md ops listed → i ∈ Region.ready md ops listed → YieldsIf P ops S oi v a → S w →
      wpAnyZ P md ops Q S z fuel (listed.setIfInBounds i true) (a.put oi.dst v) w → wpAnyZ P md ops Q S z (fuel + 1) listed a w := by
  intro fuel
  induction fuel with
  | zero =>
    intro listed a w _ _ hr hy hS H
    refine ⟨fun h => (by rw [h] at hr; cases hr), fun j hj => ?_⟩
    by_cases hji : j = i
    · subst hji; exact hy.wpOp hi hS ⟨fun _ => hS, H⟩
    · have := ready_mono hj hji
      rw [H.1] at this
      cases this
  | succ fuel ih =>
    intro listed a w hfree hcl hr hy hS H
    refine ⟨fun h => (by rw [h] at hr; cases hr), fun j hj => ?_⟩
    by_cases hji : j = i
    · subst hji; exact hy.wpOp hi hS ⟨fun _ => hS, H⟩
    · have h1 := H.2 j (ready_mono hj hji)
      obtain ⟨hjun, oj, hoj, hall⟩ := mem_ready.1 hj
      have hnot : ∀ e ∈ oj.after, Region.binds md e = true → e.on ≠ i := fun e he hb heq => by
        have h1 := hall e he hb
        have h0 := (mem_ready.1 hr).1
        rw [heq] at h1
        rcases Nat.lt_or_ge i listed.size with h' | h'
        · simp [h'] at h0 h1; rw [h0] at h1; cases h1
        · simp [Array.getElem?_eq_none h'] at h1
      have hjz : j ≠ z := fun e => hz listed hcl (getD_both (mem_ready.1 hr).1) (by rw [← e]; exact hj)
      have h2 := wpOp_putIf hoj (hfree j oj hoj hji hjun hnot) (fun cs b => hsel i oi cs b hi) (fun cs b => hsel j oj cs b hoj) hQ hy h1
      have hfree' : ∀ k ok, ops[k]? = some ok → k ≠ i → (listed.setIfInBounds j true).getD k true = false →
          (∀ e ∈ ok.after, Region.binds md e = true → e.on ≠ i) → oi.apart ops ok = true := fun k ok hk hki hun hno => by
        refine hfree k ok hk hki ?_ hno
        by_cases hjk : j = k
        · subst hjk; exact hjun
        · rw [getD_set_ne true hjk] at hun; exact hun
      refine wpOp_mono (fun a' w' h3 => ⟨fun _ => h3.2.1 hjz, ih (listed.setIfInBounds j true) a' w' hfree' (hcl.set hj) (ready_mono hr (Ne.symm hji)) h3.1 (h3.2.1 hjz) ?_⟩) h2
      rw [Array.setIfInBounds_comm _ _ hji]
      exact h3.2.2
theorem wpAnyZ_take {i : Nat} {oi : Oper} {v : Value} {fuel : Nat} {listed : Array Bool} {a : Act} {w : World} (hi : ops[i]? = some oi)
    (hs : Region.noSelect ops = true) (hf : Region.free md ops listed i = true) (hr : (Region.ready md ops listed).contains i = true) (hiz : i ≠ z) (hcl : closedB md ops listed = true) (hz : Never md ops z i)
    (hQ : ∀ c a w, Q (.panic c) (a.put oi.dst v) w → Q (.panic c) a w) (hy : YieldsIf P ops S oi v a) (hS : S w)
    (h : wpAnyZ P md ops Q S z fuel (listed.setIfInBounds i true) (a.put oi.dst v) w) : wpAnyZ P md ops Q S z (fuel + 1) listed a w :=
  wpAnyZ_first hi (Region.noSelect_spec hs) hQ hiz hz fuel listed a w (Region.free_spec hi hf) (closed_of hcl) (by simpa using hr) hy hS h
/-- One alone may come up. -/
theorem wpAnyZ_one {i : Nat} {o : Oper} {fuel : Nat} {listed : Array Bool} {a : Act} {w : World} (hr : Region.ready md ops listed = [i]) (hi : ops[i]? = some o) (hw : Region.wanted o (yielded ops a.tmps) = true)
    (h : ∀ K : Act → World → Prop, (∀ a' w', (i ≠ z → S w') → wpAnyZ P md ops Q S z fuel (listed.setIfInBounds i true) a' w' → K a' w') → Oper.wp P o a w K Q) : wpAnyZ P md ops Q S z (fuel + 1) listed a w :=
  ⟨fun h0 => absurd (hr ▸ h0) (by simp), fun j hj => by
    rw [hr] at hj
    rw [List.mem_singleton.1 hj]
    unfold wpOp
    simp only [hi, hw, if_true]
    exact .inl (h _ fun a' w' h1 h2 => ⟨h1, h2⟩)⟩
theorem wpAnyZ_done {listed : Array Bool} {a : Act} {w : World} (hr : Region.ready md ops listed = []) (h : Q .normal a w) :
    ∀ fuel, wpAnyZ P md ops Q S z fuel listed a w
  | 0 => ⟨hr, h⟩
  | _ + 1 => ⟨fun _ => h, by rw [hr]; simp⟩
theorem wp_region_z {id : Nat} {a : Act} {w : World} (S : World → Prop) (z : Nat) (hm : P.follows .mixedOrders = true)
    (h : wpAnyZ P .any ops Q S z ops.size (Array.replicate ops.size false) a w.drew) : (Code.region id ops true).wp P Q a w :=
  wp_region_any hm (wpAny_of_z _ _ _ _ h)
end
end Go.Proofs.Ytejpjbmbcdgomaa
