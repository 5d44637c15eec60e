/- VRefA: put together. -/
import Derived.Test.YtejpjbmbcdgomaaPt46
import Derived.Test.YtejpjbmbcdgomaaPt37
import Derived.Test.YtejpjbmbcdgomaaPt30
/- The document's sweep: ahead, Before. Written by gen_vrefa.py. -/
namespace Go.Proofs.Ytejpjbmbcdgomaa
set_option maxRecDepth 100000
open Go.RowKit

def kyV (p : Int × Int) : List Value := [.int .i64 p.1, .int .i64 p.2]
theorem kyV_len (p : Int × Int) : (kyV p).length = 2 := rfl
abbrev Kys (w : World) (A : Option Addr) (l : List (Int × Int)) : Prop := RowAt kyV 2 w A l.length l
theorem Kys.cell {w : World} {A : Option Addr} {l : List (Int × Int)} (h : Kys w A l) (hn : 0 < l.length) : ∃ b off, A = some ⟨b, off, none⟩ ∧ ∀ q (hq : q < l.length), w.cell? ⟨b, off + q * 2, none⟩ = some (.int .i64 l[q].1) ∧ w.cell? ⟨b, off + q * 2 + 1, none⟩ = some (.int .i64 l[q].2) := by
  obtain ⟨b, off, e, hc⟩ := RowAt.cells h kyV_len hn
  exact ⟨b, off, e, fun q hq => ⟨hc q hq 0 _ (by omega) rfl, hc q hq 1 _ (by omega) rfl⟩⟩
theorem elemKy : ElemT Try.prog 81 42 2 16 :=
  ⟨Try.underlying81, by kernel_rfl, by
    obtain ⟨i, hi, hz, h1, _⟩ := info_parts (show (Try.prog.info? 42).map (fun i => (i.zero, i.size, i.bytes)) = some (some (.agg #[.int .i64 0, .int .i64 0]), 2, 16) by kernel_rfl)
    exact ⟨i, _, hi, hz, rfl⟩, by decide⟩
theorem ky1 (p : Int × Int) : ∀ u ∈ kyV p, u.oneCell' = true := fun u hu => by
  simp [kyV] at hu
  rcases hu with rfl | rfl <;> rfl
theorem ky_one (l : List (Int × Int)) : ∀ u ∈ rowV kyV l, u.oneCell' = true := fun u hu => by
  obtain ⟨x, _, h⟩ := List.mem_flatMap.1 hu
  exact ky1 x u h
theorem ahead_any (w : World) (nv : Value) (yt yk t k : Int) (b d : Bool) (hnv : ∃ A n c, nv = .slice A n c) : Calls Try.prog 83 #[.agg #[nv, .int .i64 yt, .int .i64 yk, .bool b, .bool d], .agg #[.int .i64 t, .int .i64 k]] w fun e w' => e = .returned (.bool (aheadB b yt yk t k)) ∧ Below w.heap.size w w' := by
  obtain ⟨A, n, c, rfl⟩ := hnv
  have HB : Hid (∀ o o', Below w.heap.size w ((w.alloc o).alloc o')) := Lib.hid fun o o' => ((Below.refl _ w).alloc (Nat.le_refl _) o).alloc (by simp) o'
  have HL := Lib.hid (fun W => refLess_any W yt yk t k)
  unfold aheadB
  cases b with
  | false =>
    go_enter Try.func83, Try.ntmps83
    go_wp2_with fail
    go_ret
    exact ⟨rfl, HB.out _ _⟩
  | true =>
    obtain ⟨z, hz⟩ : ∃ z, z = lessK yt yk t k := ⟨_, rfl⟩
    have HZ := Lib.hid hz
    rw [← hz] at HL
    clear hz
    go_enter Try.func83, Try.ntmps83
    go_wp2_with fail
    refine Calls.mono (HL.out _) ?_
    rintro e w' ⟨rfl, hb⟩
    have HB2 := Lib.hid ((HB.out _ _).trans (hb.mono (HB.out _ _).size))
    clear hb
    go_wp2_with fail
    go_ret
    exact ⟨by rw [← HZ.out]; rfl, HB2.out⟩
theorem own_void18 {w : World} {B e size p : Nat} (hp : w.heap[p]? = some (.cells #[] e (0, 0))) (hB : B ≤ p) : w.ownsRow B e size (.slice (some ⟨p, 0, none⟩) 0 0) 0 [] :=
  ⟨by simp, .inr ⟨p, 0, #[], rfl, hB, hp, Nat.le_refl _, by decide, by simp, by simp⟩⟩
theorem run_append_fresh18 {P : Program} {t e : TypeId} {size bytes : Nat} (E : ElemT P t e size bytes) (w : World) (ty : TypeId) (p B : Nat) (hp : w.heap[p]? = some (.cells #[] e (0, 0))) (hB : B ≤ p)
    (A : Option Addr) (m c : Nat) (ys : List Value) (hr : Rdv w A m size ys) (h1 : ∀ u ∈ ys, u.oneCell' = true) (hnil : A = none → c = 0) (hmx : m ≤ maxLen) (hby : m * bytes ≤ 140737488355328) :
    ∃ v w', (Builtin.append_ #[t, t] ty #[.slice (some ⟨p, 0, none⟩) 0 0, .slice A m c]).run P w = .ok v w' ∧ w'.ownsRow B e size v m ys ∧ Below w.heap.size w w' := by
  have hpl : p < w.heap.size := (Array.getElem?_eq_some_iff.1 hp).1
  obtain ⟨v, w', hrun, hown, _, _⟩ := run_append_row E w B ty (.slice (some ⟨p, 0, none⟩) 0 0) 0 [] (own_void18 hp hB) A m c ys hr h1 hnil (by omega) (by rw [Nat.zero_add]; exact hby) (by omega)
  simp only [Nat.zero_add, List.nil_append] at hown
  refine ⟨v, w', hrun, hown, ?_⟩
  obtain ⟨ht, hinfo, ⟨i, z, hi, hz, hzs⟩, hpos⟩ := E
  rw [hi] at hinfo
  simp at hinfo
  obtain ⟨hl, hc⟩ := hr
  by_cases hm : m = 0
  · subst hm
    have : w' = w := by
      rcases A with _ | ad
      · simp [Builtin.append_, run_underlying ht, sizeOf, typeInfo, hi, Builtin.lenOf, Builtin.firstCells, loadCells, loadCellsFrom, storeCells, hnil rfl] at hrun
        exact hrun.2.symm
      · simp [Builtin.append_, run_underlying ht, sizeOf, typeInfo, hi, Builtin.lenOf, Builtin.firstCells, loadCells, loadCellsFrom, storeCells] at hrun
        exact hrun.2.symm
    rw [this]
    exact Below.refl _ _
  · obtain ⟨b, off, rfl, h5⟩ := hc (by omega)
    have hnews : ∀ j u, ys[j]? = some u → w.cell? ((⟨b, off, none⟩ : Addr).add j) = some u := fun j u hj => by rw [addr_plus]; exact h5 j u hj
    have hrun2 := run_append_grow (P := P) w t ty e i z ht hi hz ⟨p, 0, none⟩ 0 0 [] (by simp) (fun j u hj => by simp at hj) ⟨b, off, none⟩ m c ys (by rw [hl, hinfo.1]) hnews (by omega) (by unfold maxLen at hmx; omega) (growslice_fits (by unfold maxLen at hmx; omega) (by rw [hinfo.2, Nat.zero_add]; exact hby))
    rw [hrun] at hrun2
    injection hrun2 with _ e2
    rw [e2]
    exact ((Below.refl _ w).drew).alloc (Nat.le_refl _) _
theorem does_append_fresh18 {P : Program} {t e : TypeId} {size bytes : Nat} (E : ElemT P t e size bytes) {ops : Array Oper} {Q : Exit → Act → World → Prop} {o : Oper} {a : Act} {w : World} (hgd : o.guard = none) (s x : Operand)
    (ho : o.op = .call { callee := .builtin .append, args := #[s, x], argTypes := #[t, t] }) (p B : Nat) (hp : w.heap[p]? = some (.cells #[] e (0, 0))) (hB : B ≤ p) (hs : a.eval s = .slice (some ⟨p, 0, none⟩) 0 0)
    (A : Option Addr) (m c : Nat) (ys : List Value) (hx : a.eval x = .slice A m c) (hr : Rdv w A m size ys) (h1 : ∀ u ∈ ys, u.oneCell' = true) (hnil : A = none → c = 0) (hmx : m ≤ maxLen) (hby : m * bytes ≤ 140737488355328) {F : Fact} {d : List Past}
    (hF : ∀ v w', w'.ownsRow B e size v m ys → F d v w w') : Does P ops Q o F w d a := by
  intro K hK
  rw [if_pos (by simp [Region.wanted, hgd])]
  obtain ⟨v, w', hrun, h2, h3⟩ := run_append_fresh18 E w o.type p B hp hB A m c ys hr h1 hnil hmx hby
  have h6 := hK v w' (hF _ _ h2) h3
  unfold Oper.wp
  simp [execOp, ho, resolve, invoke, builtin, hs, hx, hrun, Result.andThen]
  exact h6

/-- The document's sweep in its box, between two writes. -/
structure YbI (w wr : World) (p2 p4 : Nat) (A0 : Option Addr) (KS0 : List (Int × Int)) (A : Option Addr) (c : Nat) (KS : List (Int × Int)) (yt yk : Int) (b : Bool) : Prop where
  bel : Below w.heap.size w wr
  bx : wr.heap[p2]? = some (.cells #[.slice A KS.length c, .int .i64 yt, .int .i64 yk, .bool b, .bool false] 83 (0, 0))
  rs : wr.heap[p4]? = some (.cells #[.slice none 0 0, .int .i64 0, .int .i64 0, .bool false, .bool false] 83 (0, 0))
  row : Kys wr A KS
  cap : A = none → c = 0
  near : (A = A0 ∧ KS = KS0) ∨ ∀ b o, A = some ⟨b, o, none⟩ → w.heap.size ≤ b
  apart : 0 < KS.length → ∀ b o, A = some ⟨b, o, none⟩ → b ≠ p2 ∧ b ≠ p4
theorem YbI.below {w wr w1 : World} {p2 p4 : Nat} {A0 : Option Addr} {KS0 : List (Int × Int)} {A : Option Addr} {c : Nat} {KS : List (Int × Int)} {yt yk : Int} {b : Bool} (h : YbI w wr p2 p4 A0 KS0 A c KS yt yk b) (hb : Below wr.heap.size wr w1) : YbI w w1 p2 p4 A0 KS0 A c KS yt yk b :=
  ⟨h.bel.trans (hb.mono h.bel.size), (hb.block p2 (Array.getElem?_eq_some_iff.1 h.bx).1).trans h.bx, (hb.block p4 (Array.getElem?_eq_some_iff.1 h.rs).1).trans h.rs, RowAt.below h.row hb, h.cap, h.near, h.apart⟩
/-- What the document's Before answers. -/
def RbO (w : World) (A : Option Addr) (KS KS' : List (Int × Int)) (yt yk : Int) (b d : Bool) (e : Ending) (w' : World) : Prop :=
  ∃ A' c', e = .returned (.agg #[.slice A' KS'.length c', .int .i64 yt, .int .i64 yk, .bool b, .bool d]) ∧ Kys w' A' KS' ∧ (A' = none → c' = 0) ∧ Below w.heap.size w w' ∧ ((A' = A ∧ KS' = KS) ∨ ∀ b o, A' = some ⟨b, o, none⟩ → w.heap.size ≤ b)
theorem set5c {w : World} {p : Nat} {a b c d e : Value} {T : TypeId} (x y z u v : Value) (h : w.heap[p]? = some (.cells #[a, b, c, d, e] T (0, 0))) : (((((w.setCell ⟨p, 0, none⟩ x).setCell ⟨p, 1, none⟩ y).setCell ⟨p, 2, none⟩ z).setCell ⟨p, 3, none⟩ u).setCell ⟨p, 4, none⟩ v).heap[p]? = some (.cells #[x, y, z, u, v] T (0, 0)) :=
  (heap_set _ p 4 v (heap_set _ p 3 u (heap_set _ p 2 z (heap_set _ p 1 y (heap_set w p 0 x h))))).trans rfl
set_option maxHeartbeats 16000000 in
theorem refbefore_any {w : World} {A B : Option Addr} {c cb : Nat} {KS : List (Int × Int)} {ws : List Wr} {yt yk : Int} {b : Bool} (h : Kys w A KS) (hc : A = none → c = 0) (hl : KS.length + ws.length ≤ 10000) (hw : Wrs w B ws) :
    Calls Try.prog 40 #[.agg #[.slice A KS.length c, .int .i64 yt, .int .i64 yk, .bool b, .bool false], .slice B ws.length cb] w fun e w' => RbO w A KS (rbS b yt yk KS ws) yt yk b false e w' := by
  obtain ⟨n, hn⟩ : ∃ n, n = ws.length := ⟨_, rfl⟩
  obtain ⟨p2, hp2⟩ : ∃ p2, p2 = w.heap.size := ⟨_, rfl⟩
  obtain ⟨p4, hp4⟩ : ∃ p4, p4 = p2 + 1 := ⟨_, rfl⟩
  obtain ⟨n0, hn0⟩ : ∃ n0, n0 = KS.length := ⟨_, rfl⟩
  obtain ⟨W1, hW1⟩ : ∃ W1, W1 = (w.alloc (.cells #[.slice A n0 c, .int .i64 yt, .int .i64 yk, .bool b, .bool false] 83)).alloc (.cells #[.slice none 0 0, .int .i64 0, .int .i64 0, .bool false, .bool false] 83) := ⟨_, rfl⟩
  have h3 := blocks2 w (.cells #[.slice A n0 c, .int .i64 yt, .int .i64 yk, .bool b, .bool false] 83) (.cells #[.slice none 0 0, .int .i64 0, .int .i64 0, .bool false, .bool false] 83)
  rw [← hW1, ← hp2, ← hp4] at h3
  obtain ⟨g1, g2, gs, gb⟩ := h3
  rw [hp2] at gb
  have hI0 : YbI w W1 p2 p4 A KS A c (rbS b yt yk KS (ws.take 0)) yt yk b := by
    refine ⟨gb, by rw [hn0] at g1; exact g1, g2, RowAt.below h gb, hc, .inl ⟨rfl, rfl⟩, fun h0 b o e => ?_⟩
    have hr := h
    rw [e] at hr
    have h7 := Rdv.blockLt hr.row h0 (by decide)
    omega
  have HIN := Lib.hid (And.intro hw (And.intro hl (And.intro hn (And.intro hn0 (And.intro hp2 hp4)))))
  have HW := Lib.hid hW1
  have HI0 := Lib.hid hI0
  rw [← hn, ← hn0]
  have hn18 : n ≤ 10000 := by omega
  clear h hc hl hw hn g1 g2 gs gb hI0 hW1 hn0
  go_enter Try.func40, Try.ntmps40
  go_upto_region 1 with fail
  rw [← HW.out, ← HIN.out.2.2.2.2.1, ← HIN.out.2.2.2.2.2]
  clear hp2 hp4
  go_wp2_with fail
  go_loopw [5, 6, 7, 8, 9, 10, 11, 12, 13, 14, 15, 16, 17, 18, 19, 20, 21, 22, 23, 24, 25, 26, 27, 28, 29, 30, 31, 32, 33, 34, 35, 36, 37, 38, 39, 40, 41, 42, 43, 44, 45, 46, 47, 48, 49, 50, 51, 52, 53, 54, 55, 56] (fun ix _ _ _ _ _ _ _ _ _ _ _ _ _ _ _ _ _ _ _ _ _ _ _ _ _ _ _ _ _ _ _ _ _ _ _ _ _ _ _ _ _ _ _ _ _ _ _ _ _ _ _ wr => ∃ (z : Nat) (A' : Option Addr) (c' : Nat), ix = .int .i64 (z : Int) ∧ z ≤ n ∧ YbI w wr p2 p4 A KS A' c' (rbS b yt yk KS (ws.take z)) yt yk b) (fun ix _ _ _ _ _ _ _ _ _ _ _ _ _ _ _ _ _ _ _ _ _ _ _ _ _ _ _ _ _ _ _ _ _ _ _ _ _ _ _ _ _ _ _ _ _ _ _ _ _ _ _ wr => n - (intOf ix).toNat)
  case atStart => exact ⟨0, A, c, rfl, Nat.zero_le _, HI0.out⟩
  case round =>
    obtain ⟨z, A1, c1, rfl, hz, hI⟩ := hrel
    obtain ⟨K1, hK1⟩ : ∃ K1, K1 = rbS b yt yk KS (ws.take z) := ⟨_, rfl⟩
    have HK1 := Lib.hid hK1
    rw [← hK1] at hI
    have hkl : K1.length ≤ 10000 := by
      rw [hK1]
      have := rbS_len b yt yk (ws.take z) KS
      have := HIN.out.2.1
      rw [List.length_take] at *
      omega
    have HI := Lib.hid (And.intro hI (And.intro hz hkl))
    obtain ⟨m, hm⟩ : ∃ m, m = K1.length := ⟨_, rfl⟩
    have x0 : wr.cell? ⟨p2, 0, none⟩ = some (.slice A1 m c1) := by rw [cell_of_row _ _ 0 _ _ _ hI.bx, hm]; rfl
    have x4 : wr.cell? ⟨p2, 4, none⟩ = some (.bool false) := by rw [cell_of_row _ _ 4 _ _ _ hI.bx]; rfl
    have HM := Lib.hid hm
    clear hI hz hkl hK1 hm
    by_cases hlt : z < n
    · have hzl : z < ws.length := by have := HIN.out.2.2.1; omega
      obtain ⟨bw, ow, rfl, hcl⟩ := Wrs.cell (RowAt.below HIN.out.1 HI.out.1.bel) (by omega)
      obtain ⟨y0, y1, y2, y3⟩ := hcl z hzl
      obtain ⟨x, hx⟩ : ∃ x, x = ws[z] := ⟨_, rfl⟩
      rw [← hx] at y0 y1 y2 y3
      have htk : ws.take (z + 1) = ws.take z ++ [x] := by rw [hx]; exact (List.take_append_getElem hzl).symm
      have HTK : Hid (rbS b yt yk KS (ws.take (z + 1)) = rbW b yt yk K1 x) := Lib.hid (by rw [htk, rbS_snoc, HK1.out])
      obtain ⟨p6, hp6⟩ : ∃ p6, p6 = wr.heap.size := ⟨_, rfl⟩
      obtain ⟨W6, hW6⟩ : ∃ W6, W6 = wr.alloc (.cells #[.int .i64 x.t, .int .i64 x.k] 42) := ⟨_, rfl⟩
      have hb6 : Below wr.heap.size wr W6 := by rw [hW6]; exact (Below.refl _ _).alloc (Nat.le_refl _) _
      have g6 : W6.heap[p6]? = some (.cells #[.int .i64 x.t, .int .i64 x.k] 42 (0, 0)) := by rw [hW6, hp6]; exact heap_alloc_new wr _
      have hp6l : p2 < p6 ∧ w.heap.size ≤ p6 := by rw [hp6]; exact ⟨(Array.getElem?_eq_some_iff.1 HI.out.1.bx).1, HI.out.1.bel.size⟩
      have HI6 := Lib.hid (And.intro (HI.out.1.below hb6) (And.intro g6 (And.intro HI.out.2.2 hp6l)))
      have HW6 := Lib.hid (And.intro hW6 hp6)
      clear hcl hx htk hp6 hW6 hb6 g6 hp6l hzl
      go_upto_region 6 with fail
      rw [← HW6.out.1, ← HW6.out.2]
      clear x0 x4 y0 y1 y2 y3
      go_wp2_with fail
      go_loopw [7, 8, 25, 26, 27, 28, 29, 30, 31, 32, 33, 34, 35, 36, 37, 38, 39, 40, 41] (fun kx jx _ _ _ _ _ _ _ _ _ _ _ _ _ _ _ _ _ wr => ∃ (q : Nat), jx = .int .i64 (q : Int) ∧ q ≤ m ∧ kx = .bool (hasK (K1.take q) x.t x.k) ∧ Below W6.heap.size W6 wr) (fun kx jx _ _ _ _ _ _ _ _ _ _ _ _ _ _ _ _ _ wr => m - (intOf jx).toNat)
      case atStart => exact ⟨0, rfl, Nat.zero_le _, by simp [hasK], Below.refl _ _⟩
      case round =>
        obtain ⟨q, rfl, hq, rfl, hbr⟩ := hrel
        have HI7 := Lib.hid (And.intro (HI6.out.1.below hbr) (And.intro ((hbr.block p6 (Array.getElem?_eq_some_iff.1 HI6.out.2.1).1).trans HI6.out.2.1) (And.intro hq hbr)))
        have z0 : wr.cell? ⟨p2, 0, none⟩ = some (.slice A1 m c1) := by rw [cell_of_row _ _ 0 _ _ _ HI7.out.1.bx, HM.out]; rfl
        clear hq hbr
        have hm10 : m ≤ 10000 := by have := HI6.out.2.2.1; have := HM.out; omega
        by_cases hqm : q < m
        · have hql : q < K1.length := by rw [← HM.out]; exact hqm
          obtain ⟨bk, ok, rfl, hck⟩ := Kys.cell HI7.out.1.row (by omega)
          obtain ⟨k0, k1⟩ := hck q hql
          obtain ⟨y, hy⟩ : ∃ y, y = K1[q] := ⟨_, rfl⟩
          rw [← hy] at k0 k1
          have hhk : hasK (K1.take (q + 1)) x.t x.k = (hasK (K1.take q) x.t x.k || (decide (y.1 = x.t) && decide (y.2 = x.k))) := by
            rw [(List.take_append_getElem hql).symm, ← hy]
            unfold hasK
            rw [List.any_append]
            simp
          obtain ⟨old, hold⟩ : ∃ o, o = hasK (K1.take q) x.t x.k := ⟨_, rfl⟩
          rw [← hold] at hhk ⊢
          obtain ⟨eqv, heqv⟩ : ∃ v, v = (decide (y.1 = x.t) && decide (y.2 = x.k)) := ⟨_, rfl⟩
          have heq := fun W => eql_keyK W y.1 y.2 x.t x.k
          rw [← heqv] at hhk heq
          have HEQ := Lib.hid heq
          have HHK := Lib.hid hhk
          have HC9 : Hid (∀ W2, Below wr.drew.heap.size wr.drew W2 → W2.cell? ⟨p2, 0, none⟩ = some (.slice (some ⟨bk, ok, none⟩) m c1) ∧ W2.cell? ⟨bk, ok + q * 2, none⟩ = some (.int .i64 y.1) ∧ W2.cell? ⟨bk, ok + q * 2 + 1, none⟩ = some (.int .i64 y.2) ∧ W2.cell? ⟨p6, 0, none⟩ = some (.int .i64 x.t) ∧ W2.cell? ⟨p6, 1, none⟩ = some (.int .i64 x.k)) := Lib.hid fun W2 hw => by
            have hb2 : Below wr.heap.size wr W2 := (Below.refl _ _).drew.trans hw
            have e6 := (hb2.block p6 (Array.getElem?_eq_some_iff.1 HI7.out.2.1).1).trans HI7.out.2.1
            exact ⟨(hb2.cell (World.block_lt_of_cell? _ _ z0)).trans z0, (hb2.cell (World.block_lt_of_cell? _ _ k0)).trans k0, (hb2.cell (World.block_lt_of_cell? _ _ k1)).trans k1, by rw [cell_of_row _ _ 0 _ _ _ e6]; rfl, by rw [cell_of_row _ _ 1 _ _ _ e6]; rfl⟩
          clear hck hy hhk hold heqv heq k0 k1 hql
          go_upto_region 9 with fail
          clear z0
          cases old with
          | true =>
            refine wp_region_noPanic ?_
            refine wp_region_abs 10 58 [
              .is (.bool true),
              .is (.bool true),
              .is undef,
              .is undef,
              .is undef,
              .is undef,
              .is undef,
              .is undef,
              .is undef,
              .is (.bool true)]
              [32, 33, 34, 35, 36, 37, 38, 39, 40, 41]
              [[], [0], [1], [2, 1], [1], [3, 4, 1], [5, 1], [1], [6, 7, 1], [1, 8]] (by kernel_rfl) (by rfl) rfl rfl (by kernel_rfl) (fun _ _ _ _ h => h.elim) ?_ ?_
            · refine ⟨?_, ?_, ?_, ?_, ?_, ?_, ?_, ?_, ?_, ?_, trivial⟩
              · intro W2 hw K hK
                go_simp
                exact hK _ _ rfl (Below.refl _ _)
              · intro W2 hw K hK
                go_simp
                exact hK _ _ rfl (Below.refl _ _)
              · intro W2 hw K hK
                go_simp
                exact hK _ _ rfl (Below.refl _ _)
              · intro W2 hw K hK
                go_simp
                exact hK _ _ rfl (Below.refl _ _)
              · intro W2 hw K hK
                go_simp
                exact hK _ _ rfl (Below.refl _ _)
              · intro W2 hw K hK
                go_simp
                exact hK _ _ rfl (Below.refl _ _)
              · intro W2 hw K hK
                go_simp
                exact hK _ _ rfl (Below.refl _ _)
              · intro W2 hw K hK
                go_simp
                exact hK _ _ rfl (Below.refl _ _)
              · intro W2 hw K hK
                go_simp
                exact hK _ _ rfl (Below.refl _ _)
              · intro W2 hw K hK
                go_simp
                exact hK _ _ rfl (Below.refl _ _)
            · intro W2 hw2
              simp only [Behind]
              have hb2 := Lib.hid ((Below.refl _ wr).drew.trans hw2)
              clear hw2
              simp only [List.drop, Act.put, List.setIfInBounds_toArray, List.set_cons_zero, List.set_cons_succ]
              go_wp2_with fail
              refine NoPanic.normal ?_
              go_wp2_with fail
              go_roundw
              case rel => exact ⟨q + 1, by go_num, by omega, by rw [HHK.out]; rfl, HI7.out.2.2.2.trans (hb2.out.mono HI7.out.2.2.2.size)⟩
              case measure => simp [intOf]; omega
          | false =>
            refine wp_region_noPanic ?_
            refine wp_region_abs 10 58 [
              .is (.bool false),
              .is (.bool false),
              .is (.pointer (some ⟨p2, 0, none⟩)),
              .is (.slice (some ⟨bk, ok, none⟩) m c1),
              .is (.int .i64 (q : Int)),
              .is (.pointer (some ⟨bk, ok + q * 2, none⟩)),
              .is (.agg #[.int .i64 y.1, .int .i64 y.2]),
              .is (.agg #[.int .i64 x.t, .int .i64 x.k]),
              .is (.bool eqv),
              .is (.bool eqv)]
              [32, 33, 34, 35, 36, 37, 38, 39, 40, 41]
              [[], [0], [1], [2, 1], [1], [3, 4, 1], [5, 1], [1], [6, 7, 1], [1, 8]] (by kernel_rfl) (by rfl) rfl rfl (by kernel_rfl) (fun _ _ _ _ h => h.elim) ?_ ?_
            · refine ⟨?_, ?_, ?_, ?_, ?_, ?_, ?_, ?_, ?_, ?_, trivial⟩
              · intro W2 hw K hK
                go_simp
                exact hK _ _ rfl (Below.refl _ _)
              · intro W2 hw K hK
                go_simp
                exact hK _ _ rfl (Below.refl _ _)
              · intro W2 hw K hK
                go_simp
                exact hK _ _ rfl (Below.refl _ _)
              · intro W2 hw K hK
                obtain ⟨s0, s1, s2, s3, s4⟩ := HC9.out W2 hw
                go_simp
                exact hK _ _ rfl (Below.refl _ _)
              · intro W2 hw K hK
                go_simp
                exact hK _ _ rfl (Below.refl _ _)
              · intro W2 hw K hK
                go_simp
                exact hK _ _ rfl (Below.refl _ _)
              · intro W2 hw K hK
                obtain ⟨s0, s1, s2, s3, s4⟩ := HC9.out W2 hw
                go_simp
                exact hK _ _ rfl (Below.refl _ _)
              · intro W2 hw K hK
                obtain ⟨s0, s1, s2, s3, s4⟩ := HC9.out W2 hw
                go_simp
                exact hK _ _ rfl (Below.refl _ _)
              · intro W2 hw K hK
                have heq := HEQ.out
                go_simp
                exact hK _ _ rfl (Below.refl _ _)
              · intro W2 hw K hK
                go_simp
                exact hK _ _ rfl (Below.refl _ _)
            · intro W2 hw2
              simp only [Behind]
              have hb2 := Lib.hid ((Below.refl _ wr).drew.trans hw2)
              clear hw2
              simp only [List.drop, Act.put, List.setIfInBounds_toArray, List.set_cons_zero, List.set_cons_succ]
              go_wp2_with fail
              refine NoPanic.normal ?_
              go_wp2_with fail
              go_roundw
              case rel => exact ⟨q + 1, by go_num, by omega, by rw [HHK.out, Bool.false_or], HI7.out.2.2.2.trans (hb2.out.mono HI7.out.2.2.2.size)⟩
              case measure => simp [intOf]; omega
        · obtain rfl : q = m := by have := HI7.out.2.2.1; omega
          have hkt : K1.take q = K1 := List.take_of_length_le (by have := HM.out; omega)
          rw [hkt]
          obtain ⟨kn, hkn⟩ : ∃ kn, kn = hasK K1 x.t x.k := ⟨_, rfl⟩
          rw [← hkn]
          have HKN := Lib.hid hkn
          have z1 : wr.cell? ⟨p2, 1, none⟩ = some (.int .i64 yt) := by rw [cell_of_row _ _ 1 _ _ _ HI7.out.1.bx]; rfl
          have z2 : wr.cell? ⟨p2, 2, none⟩ = some (.int .i64 yk) := by rw [cell_of_row _ _ 2 _ _ _ HI7.out.1.bx]; rfl
          have z3 : wr.cell? ⟨p2, 3, none⟩ = some (.bool b) := by rw [cell_of_row _ _ 3 _ _ _ HI7.out.1.bx]; rfl
          have z4 : wr.cell? ⟨p2, 4, none⟩ = some (.bool false) := by rw [cell_of_row _ _ 4 _ _ _ HI7.out.1.bx]; rfl
          have z5 : wr.cell? ⟨p6, 0, none⟩ = some (.int .i64 x.t) := by rw [cell_of_row _ _ 0 _ _ _ HI7.out.2.1]; rfl
          have z6 : wr.cell? ⟨p6, 1, none⟩ = some (.int .i64 x.k) := by rw [cell_of_row _ _ 1 _ _ _ HI7.out.2.1]; rfl
          clear hkt hkn hqm
          cases kn with
          | true =>
            have HF : Hid (rbW b yt yk K1 x = K1) := Lib.hid (by unfold rbW; rw [← HKN.out]; rfl)
            go_wp2_with fail
            go_roundw
            case rel => exact ⟨z + 1, _, c1, by go_num, by omega, by rw [HTK.out, HF.out]; exact HI7.out.1⟩
            case measure => simp [intOf]; omega
          | false =>
            have HAH := Lib.hid (ahead_any wr (.slice A1 q c1) yt yk x.t x.k b false ⟨_, _, _, rfl⟩)
            obtain ⟨ah, hah⟩ : ∃ ah, ah = aheadB b yt yk x.t x.k := ⟨_, rfl⟩
            rw [← hah] at HAH
            have HA2 := Lib.hid hah
            clear hah
            go_wp2_with fail
            refine Calls.mono HAH.out ?_
            rintro e w8 ⟨rfl, hb8⟩
            have HI8 := Lib.hid (And.intro (HI7.out.1.below hb8) ((hb8.block p6 (Array.getElem?_eq_some_iff.1 HI7.out.2.1).1).trans HI7.out.2.1))
            clear hb8 z0 z1 z2 z3 z4 z5 z6
            cases ah with
            | false =>
              have HF : Hid (rbW b yt yk K1 x = K1) := Lib.hid (by unfold rbW; rw [← HKN.out, ← HA2.out]; rfl)
              go_wp2_with fail
              go_roundw
              case rel => exact ⟨z + 1, _, c1, by go_num, by omega, by rw [HTK.out, HF.out]; exact HI8.out.1⟩
              case measure => simp [intOf]; omega
            | true =>
              have HF : Hid (rbW b yt yk K1 x = K1 ++ [(x.t, x.k)]) := Lib.hid (by unfold rbW; rw [← HKN.out, ← HA2.out]; rfl)
              have HCE : Hid (∀ W2, Below w8.drew.heap.size w8.drew W2 → W2.cell? ⟨p2, 0, none⟩ = some (.slice A1 q c1) ∧ W2.cell? ⟨p6, 0, none⟩ = some (.int .i64 x.t) ∧ W2.cell? ⟨p6, 1, none⟩ = some (.int .i64 x.k) ∧ Rdv W2 A1 q 2 (rowV kyV K1)) := Lib.hid fun W2 hw => by
                have hb2 : Below w8.heap.size w8 W2 := (Below.refl _ _).drew.trans hw
                have e6 := (hb2.block p6 (Array.getElem?_eq_some_iff.1 HI8.out.2).1).trans HI8.out.2
                have e2 := HI8.out.1.below hb2
                exact ⟨by rw [cell_of_row _ _ 0 _ _ _ e2.bx, HM.out]; rfl, by rw [cell_of_row _ _ 0 _ _ _ e6]; rfl, by rw [cell_of_row _ _ 1 _ _ _ e6]; rfl, by rw [HM.out]; exact e2.row.row⟩
              have HCAP := Lib.hid HI8.out.1.cap
              have hqb : q ≤ 10000 := by have := HI6.out.2.2.1; have := HM.out; omega
              go_upto_region 11 with fail
              refine wp_region_noPanic ?_
              refine wp_region_abs 6 58 [
                .tells (fun _ v wb wa => v = .slice (some ⟨wb.heap.size, 0, none⟩) 0 0 ∧ wa.heap[wb.heap.size]? = some (.cells #[] 42 (0, 0)) ∧ w8.heap.size ≤ wb.heap.size),
                .is (.pointer (some ⟨p2, 0, none⟩)),
                .is (.slice A1 q c1),
                .tells (fun _ v _ wa => wa.ownsRow w8.heap.size 42 2 v q (rowV kyV K1)),
                .is (.agg #[.int .i64 x.t, .int .i64 x.k]),
                .tells (fun _ v wb wa => v = .slice (some ⟨wb.heap.size, 0, none⟩) 1 1 ∧ wa.heap[wb.heap.size]? = some (.cells #[.int .i64 x.t, .int .i64 x.k] 42 (0, 0)))]
                [49, 50, 51, 52, 53, 54]
                [[], [], [1], [0, 2], [], [4]] (by kernel_rfl) (by rfl) rfl rfl (by kernel_rfl) (fun _ _ _ _ h => h.elim) ?_ ?_
              · refine ⟨?_, ?_, ?_, ?_, ?_, ?_, trivial⟩
                · intro W2 hw K hK
                  go_simp
                  exact hK _ _ ⟨rfl, heap_alloc_new W2 _, ((Below.refl _ w8).drew.trans hw).size⟩ ((Below.refl _ _).alloc (Nat.le_refl _) _)
                · intro W2 hw K hK
                  go_simp
                  exact hK _ _ rfl (Below.refl _ _)
                · intro W2 hw K hK
                  obtain ⟨s0, s1, s2, s3⟩ := HCE.out W2 hw
                  go_simp
                  exact hK _ _ rfl (Below.refl _ _)
                · rintro W2 hw v0 wb0 wa0 ⟨_, rfl, g0, hg0⟩ x0
                  refine (show ∀ d, Does _ _ _ _ _ _ d _ from fun d => ?_) _
                  obtain ⟨_, _, _, r0⟩ := HCE.out W2 hw
                  exact does_append_fresh18 (F := fun _ v _ wa => wa.ownsRow w8.heap.size 42 2 v q (rowV kyV K1)) elemKy rfl _ _ rfl _ w8.heap.size ((x0.block _ (Array.getElem?_eq_some_iff.1 g0).1).trans g0) hg0 rfl A1 q c1 _ rfl r0 (ky_one _) HCAP.out (by unfold maxLen; omega) (by omega) fun v w' h => h
                · intro W2 hw K hK
                  obtain ⟨s0, s1, s2, s3⟩ := HCE.out W2 hw
                  go_simp
                  exact hK _ _ rfl (Below.refl _ _)
                · intro W2 hw K hK
                  go_simp
                  exact hK _ _ ⟨rfl, heap_alloc_new W2 _⟩ ((Below.refl _ _).alloc (Nat.le_refl _) _)
              · intro W2 hw2
                simp only [Behind]
                rintro v0 wb0 wa0 _ _ _ _ v3 wb3 wa3 h3 x3 _ _ v5 wb5 wa5 ⟨rfl, hrow⟩ x5 _ _
                obtain ⟨p5, hp5⟩ : ∃ p5, p5 = wb5.heap.size := ⟨_, rfl⟩
                rw [← hp5] at hrow ⊢
                have g5 := (x5.block p5 (Array.getElem?_eq_some_iff.1 hrow).1).trans hrow
                have hB2 : Below w8.heap.size w8 W2 := (Below.refl _ w8).drew.trans hw2
                have ho3 : W2.ownsRow w8.heap.size 42 2 v3 q (rowV kyV K1) := own_same h3 fun q hq => by
                  obtain ⟨_, e9⟩ := own_at h3 hq
                  exact x3.block q (Array.getElem?_eq_some_iff.1 e9).1
                obtain ⟨A3, c3, rfl⟩ := own_form ho3
                have hr5 : Rdv W2 (some ⟨p5, 0, none⟩) 1 2 (kyV (x.t, x.k)) := ⟨rfl, fun _ => ⟨p5, 0, rfl, fun j u hj => by
                  rw [Nat.zero_add, cell_of_row W2 p5 j _ _ (0, 0) g5]
                  unfold kyV at hj
                  simpa using hj⟩⟩
                have HO3 := Lib.hid (And.intro ho3 (And.intro hr5 (And.intro (HI8.out.1.below hB2) (And.intro hB2.size hB2))))
                clear hw2 h3 x3 hp5 hrow x5 g5 hB2 ho3 hr5
                simp only [List.drop, Act.put, List.setIfInBounds_toArray, List.set_cons_zero, List.set_cons_succ]
                go_wp2_with (at_builtin; refine wpList_append_rowg elemKy rfl (.tmp 52) (.tmp 54) rfl w8.heap.size (.slice A3 q c3) q (rowV kyV K1) rfl HO3.out.1 (some ⟨p5, 0, none⟩) 1 1 (kyV (x.t, x.k)) rfl HO3.out.2.1 (ky1 _) (fun h => by cases h) (by unfold maxLen; omega) (by omega) HO3.out.2.2.2.1 ?_; intro v' w' ho hg hq; obtain ⟨A8, c8, rfl⟩ := own_form ho; have hne2 : (Value.slice A3 q c3).ownBlock ≠ some p2 := (fun c => by have h1 := own_ge HO3.out.1 c; have h2 := (Array.getElem?_eq_some_iff.1 HI8.out.1.bx).1; omega); have hbx := (hg.block p2 (Array.getElem?_eq_some_iff.1 HO3.out.2.2.1.bx).1 (fun e => hne2 e.symm)).trans HO3.out.2.2.1.bx; have f9 := frozen_of hbx 0; have HG9 := Lib.hid (And.intro ho (And.intro hg (And.intro hq hbx))); have k9 : w'.cell? ⟨p2, 0, none⟩ = some (.slice A1 K1.length c1) := (by rw [cell_of_row _ _ 0 _ _ _ hbx]; rfl); clear ho hg hq hne2 hbx)
                refine NoPanic.normal ?_
                have HE : Hid (YbI w (w'.setCell ⟨p2, 0, none⟩ (.slice A8 (q + 1) c8)) p2 p4 A KS A8 c8 (K1 ++ [(x.t, x.k)]) yt yk b) := Lib.hid (by
                  obtain ⟨ho, hg, hq, hbx⟩ := HG9.out
                  obtain ⟨ho3, _, hI, hs8, hB8⟩ := HO3.out
                  have hlen : (K1 ++ [(x.t, x.k)]).length = q + 1 := by rw [List.length_append, ← HM.out]; rfl
                  have hrw : rowV kyV (K1 ++ [(x.t, x.k)]) = rowV kyV K1 ++ kyV (x.t, x.k) := by rw [rowV_append]; simp [rowV]
                  have h2l := (Array.getElem?_eq_some_iff.1 HI8.out.1.bx).1
                  have h4l := (Array.getElem?_eq_some_iff.1 HI8.out.1.rs).1
                  have hw8 := HI8.out.1.bel.size
                  have hlo3 : ∀ r, (Value.slice A3 q c3).ownBlock = some r → w8.heap.size ≤ r := fun r e => own_ge ho3 e
                  have hlo8 : ∀ r, (Value.slice A8 (q + 1) c8).ownBlock = some r → w8.heap.size ≤ r := fun r e => own_ge ho e
                  have hp24 : p4 ≠ p2 := by have := HIN.out.2.2.2.2.2; omega
                  have hp2w : w.heap.size ≤ p2 := by have := HIN.out.2.2.2.2.1; omega
                  have ho' : (w'.setCell ⟨p2, 0, none⟩ (.slice A8 (q + 1) c8)).ownsRow w8.heap.size 42 2 (.slice A8 (q + 1) c8) (q + 1) (rowV kyV (K1 ++ [(x.t, x.k)])) := by
                    rw [hrw]
                    exact own_same ho fun r e => heap_ne _ _ _ _ (by have := hlo8 r e; omega)
                  obtain ⟨A9, c9, e9, hr9, hn9, _⟩ := rdv_own ho'
                  injection e9 with e9a e9b e9c
                  subst e9a e9c
                  refine ⟨⟨hg.os.trans hI.bel.os, hg.tape.trans hI.bel.tape, hg.output.trans hI.bel.output, by rw [World.size_setCell]; exact Nat.le_trans hI.bel.size hg.size, fun r hr => (heap_ne _ _ _ _ (by omega)).trans ((hg.block r (Nat.lt_of_lt_of_le hr hI.bel.size) (fun e => by have := hlo3 r e.symm; omega)).trans (hI.bel.block r hr))⟩, ?_, ?_, ⟨rfl, by rw [hlen]; exact hr9⟩, hn9, .inr fun r o e => ?_, fun _ r o e => ?_⟩
                  · rw [hlen]; exact (heap_set w' p2 0 _ hbx).trans rfl
                  · exact (heap_ne _ _ _ _ hp24).trans ((hg.block p4 (Nat.lt_of_lt_of_le h4l hs8) (fun e => by have := hlo3 p4 e.symm; omega)).trans hI.rs)
                  · have := hlo8 r (by rw [e]; rfl); omega
                  · have := hlo8 r (by rw [e]; rfl); omega)
                clear f9 k9
                go_wp2_with fail
                go_roundw
                case rel => exact ⟨z + 1, _, c8, by go_num, by omega, by rw [HTK.out, HF.out]; exact HE.out⟩
                case measure => simp [intOf]; omega
    · obtain rfl : z = n := by have := HI.out.2.1; omega
      have hE := HI.out.1
      have hKE : K1 = rbS b yt yk KS ws := by rw [HK1.out, List.take_of_length_le (by have := HIN.out.2.2.1; omega)]
      have z1 : wr.cell? ⟨p2, 1, none⟩ = some (.int .i64 yt) := by rw [cell_of_row _ _ 1 _ _ _ hE.bx]; rfl
      have z2 : wr.cell? ⟨p2, 2, none⟩ = some (.int .i64 yk) := by rw [cell_of_row _ _ 2 _ _ _ hE.bx]; rfl
      have z3 : wr.cell? ⟨p2, 3, none⟩ = some (.bool b) := by rw [cell_of_row _ _ 3 _ _ _ hE.bx]; rfl
      have r0 : wr.cell? ⟨p4, 0, none⟩ = some (.slice none 0 0) := by rw [cell_of_row _ _ 0 _ _ _ hE.rs]; rfl
      have r1 : wr.cell? ⟨p4, 1, none⟩ = some (.int .i64 0) := by rw [cell_of_row _ _ 1 _ _ _ hE.rs]; rfl
      have r2 : wr.cell? ⟨p4, 2, none⟩ = some (.int .i64 0) := by rw [cell_of_row _ _ 2 _ _ _ hE.rs]; rfl
      have r3 : wr.cell? ⟨p4, 3, none⟩ = some (.bool false) := by rw [cell_of_row _ _ 3 _ _ _ hE.rs]; rfl
      have r4 : wr.cell? ⟨p4, 4, none⟩ = some (.bool false) := by rw [cell_of_row _ _ 4 _ _ _ hE.rs]; rfl
      have rf := frozen_of hE.rs
      obtain ⟨W9, hW9⟩ : ∃ W9, W9 = ((((wr.setCell ⟨p4, 0, none⟩ (.slice A1 m c1)).setCell ⟨p4, 1, none⟩ (.int .i64 yt)).setCell ⟨p4, 2, none⟩ (.int .i64 yk)).setCell ⟨p4, 3, none⟩ (.bool b)).setCell ⟨p4, 4, none⟩ (.bool false) := ⟨_, rfl⟩
      have hb9 : W9.heap[p4]? = some (.cells #[.slice A1 m c1, .int .i64 yt, .int .i64 yk, .bool b, .bool false] 83 (0, 0)) := by rw [hW9]; exact set5c _ _ _ _ _ hE.rs
      have hlo4 : w.heap.size ≤ p4 := by have := HIN.out.2.2.2.2; omega
      have hbel : Below w.heap.size w W9 := by rw [hW9]; exact ((((hE.bel.setCell (p := ⟨p4, 0, none⟩) hlo4 _).setCell (p := ⟨p4, 1, none⟩) hlo4 _).setCell (p := ⟨p4, 2, none⟩) hlo4 _).setCell (p := ⟨p4, 3, none⟩) hlo4 _).setCell (p := ⟨p4, 4, none⟩) hlo4 _
      have hrow : Kys W9 A1 K1 := by
        rcases Nat.eq_zero_or_pos K1.length with h0 | h0
        · exact ⟨rfl, hE.row.2.1, fun hn => absurd hn (by omega)⟩
        · refine ⟨rfl, Rdv.same hE.row.2 fun r o e => ?_⟩
          have h9 := (hE.apart h0 r o e).2
          rw [hW9]
          exact (heap_ne _ _ _ _ h9).trans ((heap_ne _ _ _ _ h9).trans ((heap_ne _ _ _ _ h9).trans ((heap_ne _ _ _ _ h9).trans (heap_ne _ _ _ _ h9))))
      have HE9 := Lib.hid (And.intro hW9 (And.intro hb9 (And.intro hbel (And.intro hrow (And.intro hKE (And.intro hE.cap hE.near))))))
      clear hE hKE hW9 hb9 hlo4 hbel hrow hlt
      go_wp2_with fail
      rw [← HE9.out.1]
      have q0 : W9.cell? ⟨p4, 0, none⟩ = some (.slice A1 m c1) := by rw [cell_of_row _ _ 0 _ _ _ HE9.out.2.1]; rfl
      have q1 : W9.cell? ⟨p4, 1, none⟩ = some (.int .i64 yt) := by rw [cell_of_row _ _ 1 _ _ _ HE9.out.2.1]; rfl
      have q2 : W9.cell? ⟨p4, 2, none⟩ = some (.int .i64 yk) := by rw [cell_of_row _ _ 2 _ _ _ HE9.out.2.1]; rfl
      have q3 : W9.cell? ⟨p4, 3, none⟩ = some (.bool b) := by rw [cell_of_row _ _ 3 _ _ _ HE9.out.2.1]; rfl
      have q4 : W9.cell? ⟨p4, 4, none⟩ = some (.bool false) := by rw [cell_of_row _ _ 4 _ _ _ HE9.out.2.1]; rfl
      refine bodyPost_ret (v := .agg #[.slice A1 m c1, .int .i64 yt, .int .i64 yk, .bool b, .bool false]) (by simp [results, Try.results40, go_sem, q0, q1, q2, q3, q4]) rfl ?_
      refine ⟨A1, c1, by rw [← HE9.out.2.2.2.2.1, ← HM.out], by rw [← HE9.out.2.2.2.2.1]; exact HE9.out.2.2.2.1, HE9.out.2.2.2.2.2.1, HE9.out.2.2.1, by rw [← HE9.out.2.2.2.2.1]; exact HE9.out.2.2.2.2.2.2⟩
end Go.Proofs.Ytejpjbmbcdgomaa
