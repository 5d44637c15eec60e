/- RS1, RS2, SGet, RSM: put together. -/
import Derived.Test.YtejpjbmbcdgomaaPt03
import Derived.Test.YtejpjbmbcdgomaaPt15
import Derived.Test.YtejpjbmbcdgomaaPt10
/- The document's store: Less, Cell. -/
namespace Go.Proofs.Ytejpjbmbcdgomaa
set_option maxRecDepth 100000
open Go.RowKit

abbrev Ens (w : World) (A : Option Addr) (l : List En) : Prop := RowAt En.vals 5 w A l.length l
theorem Ens.cell {w : World} {A : Option Addr} {l : List En} (h : Ens w A l) (hn : 0 < l.length) : ∃ b off, A = some ⟨b, off, none⟩ ∧ ∀ q (hq : q < l.length), w.cell? ⟨b, off + q * 5, none⟩ = some (.int .i64 (l[q].t : Int)) ∧ w.cell? ⟨b, off + q * 5 + 1, none⟩ = some (.int .i64 l[q].x.k) ∧ w.cell? ⟨b, off + q * 5 + 2, none⟩ = some (.int .i64 l[q].x.c.v) ∧ w.cell? ⟨b, off + q * 5 + 3, none⟩ = some (.int .i64 l[q].x.c.s) ∧ w.cell? ⟨b, off + q * 5 + 4, none⟩ = some (.bool l[q].x.c.dead) := by
  obtain ⟨b, off, e, hc⟩ := RowAt.cells h En.vlen hn
  exact ⟨b, off, e, fun q hq => ⟨hc q hq 0 _ (by omega) rfl, hc q hq 1 _ (by omega) rfl, hc q hq 2 _ (by omega) rfl, hc q hq 3 _ (by omega) rfl, hc q hq 4 _ (by omega) rfl⟩⟩
/-- The document's order of keys. -/
def lessK (t k t' k' : Int) : Bool := decide (t < t') || (decide (t = t') && decide (k < k'))
set_option maxHeartbeats 4000000 in
theorem refLess_any (w : World) (t k t' k' : Int) : Calls Try.prog 56 #[.agg #[.int .i64 t, .int .i64 k], .agg #[.int .i64 t', .int .i64 k']] w fun e w' => e = .returned (.bool (lessK t k t' k')) ∧ Below w.heap.size w w' := by
  have HB : Hid (∀ o o', Below w.heap.size w ((w.alloc o).alloc o')) := Lib.hid fun o o' => by
    have h1 := (Below.refl w.heap.size w).alloc (Nat.le_refl _) o
    exact h1.alloc h1.size o'
  obtain ⟨R, hR⟩ : ∃ R, R = lessK t k t' k' := ⟨_, rfl⟩
  have HR := Lib.hid hR
  rw [← hR]
  clear hR
  go_enter Try.func56, Try.ntmps56
  by_cases h1 : t < t'
  · have d1 : decide (t < t') = true := by simpa using h1
    obtain rfl : R = true := by rw [HR.out]; simp [lessK, h1]
    go_wp2_with fail
    go_ret
    exact ⟨rfl, HB.out _ _⟩
  · have d1 : decide (t < t') = false := by simpa using h1
    by_cases h2 : t = t'
    · subst h2
      by_cases h3 : k < k'
      · have d3 : decide (k < k') = true := by simpa using h3
        obtain rfl : R = true := by rw [HR.out]; simp [lessK, h3]
        go_wp2_with fail
        go_ret
        exact ⟨rfl, HB.out _ _⟩
      · have d3 : decide (k < k') = false := by simpa using h3
        obtain rfl : R = false := by rw [HR.out]; simp [lessK, h3]
        go_wp2_with fail
        go_ret
        exact ⟨rfl, HB.out _ _⟩
    · have d2 : (t == t') = false := by simpa using h2
      obtain rfl : R = false := by rw [HR.out]; simp [lessK, h1, h2]
      go_wp2_with fail
      go_ret
      exact ⟨rfl, HB.out _ _⟩
theorem below_dN {w w2 : World} {B q : Nat} (h : Below B w w2) : Below B w (w2.drewN q) := ⟨h.os, h.tape, h.output, h.size, h.block⟩
theorem old_alloc {w : World} {q : Nat} {x : Obj} (h : w.heap[q]? = some x) (o : Obj) : (w.alloc o).heap[q]? = some x := ((Below.refl w.heap.size w).alloc (Nat.le_refl _) o).block q (Array.getElem?_eq_some_iff.1 h).1 |>.trans h
theorem blocks3 (w : World) (o1 o2 o3 : Obj) : (((w.alloc o1).alloc o2).alloc o3).heap[w.heap.size]? = some o1 ∧ (((w.alloc o1).alloc o2).alloc o3).heap[w.heap.size + 1]? = some o2 ∧ (((w.alloc o1).alloc o2).alloc o3).heap[w.heap.size + 1 + 1]? = some o3 ∧ (((w.alloc o1).alloc o2).alloc o3).heap.size = w.heap.size + 3 ∧ Below w.heap.size w (((w.alloc o1).alloc o2).alloc o3) := by
  refine ⟨old_alloc (old_alloc (heap_alloc_new w o1) o2) o3, ?_, ?_, by simp, (((Below.refl _ _).alloc (Nat.le_refl _) o1).alloc (by simp) o2).alloc (by simp; omega) o3⟩
  · have := heap_alloc_new (w.alloc o1) o2
    rw [World.size_alloc] at this
    exact old_alloc this o3
  · have := heap_alloc_new ((w.alloc o1).alloc o2) o3
    rw [World.size_alloc, World.size_alloc] at this
    exact this
def cellE (t k : Int) (l : List En) : Option Cl := (l.find? fun e => decide ((e.t : Int) = t ∧ e.x.k = k)).map (·.x.c)
theorem cellE_hit {t k : Int} {e : En} {l : List En} (h : (e.t : Int) = t ∧ e.x.k = k) : cellE t k (e :: l) = some e.x.c := by unfold cellE; rw [List.find?_cons_of_pos (by simpa using h)]; rfl
theorem cellE_miss {t k : Int} {e : En} {l : List En} (h : ¬ ((e.t : Int) = t ∧ e.x.k = k)) : cellE t k (e :: l) = cellE t k l := by unfold cellE; rw [List.find?_cons_of_neg (by simpa using h)]
set_option maxHeartbeats 8000000 in
theorem refCell_any {w : World} {A : Option Addr} {c : Nat} {l : List En} {last : Int} (h : Ens w A l) (hl : l.length ≤ 100000) (t k : Int) : Calls Try.prog 97 #[.agg #[.slice A l.length c, .int .i64 last], .agg #[.int .i64 t, .int .i64 k]] w fun e w' => e = .returned (.tuple #[.agg #[.int .i64 (cv (cellE t k l)).v, .int .i64 (cv (cellE t k l)).s, .bool (cv (cellE t k l)).dead], .bool (cellE t k l).isSome]) ∧ Below w.heap.size w w' := by
  have HH := Lib.hid h
  have HL := Lib.hid hl
  obtain ⟨G, hG⟩ : ∃ G, G = cellE t k l := ⟨_, rfl⟩
  have HG : Hid (cellE t k (l.drop 0) = G) := Lib.hid (by rw [hG]; rfl)
  rw [← hG]
  obtain ⟨n, hn⟩ : ∃ n, n = l.length := ⟨_, rfl⟩
  have HN := Lib.hid hn
  rw [← hn]
  obtain ⟨W1, hW1⟩ : ∃ W1, W1 = (((w.alloc (.cells #[.slice A n c, .int .i64 last] 31)).alloc (.cells #[.int .i64 t, .int .i64 k] 42)).alloc (.cells #[.int .i64 0, .int .i64 0, .bool false] 44)) := ⟨_, rfl⟩
  have h3 := blocks3 w (.cells #[.slice A n c, .int .i64 last] 31) (.cells #[.int .i64 t, .int .i64 k] 42) (.cells #[.int .i64 0, .int .i64 0, .bool false] 44)
  rw [← hW1] at h3
  have HW := Lib.hid hW1
  obtain ⟨p0, hp0⟩ : ∃ p0, p0 = w.heap.size := ⟨_, rfl⟩
  obtain ⟨p1, hp1⟩ : ∃ p1, p1 = p0 + 1 := ⟨_, rfl⟩
  obtain ⟨p2, hp2⟩ : ∃ p2, p2 = p1 + 1 := ⟨_, rfl⟩
  have HP := Lib.hid (And.intro hp0 (And.intro hp1 hp2))
  rw [← hp0, ← hp1, ← hp2] at h3
  obtain ⟨b0, b1, b2, bz, bb⟩ := h3
  have HF : Hid (∀ wr, Below W1.heap.size W1 wr → wr.cell? ⟨p0, 0, none⟩ = some (.slice A n c) ∧ wr.cell? ⟨p0, 1, none⟩ = some (.int .i64 last) ∧ wr.cell? ⟨p1, 0, none⟩ = some (.int .i64 t) ∧ wr.cell? ⟨p1, 1, none⟩ = some (.int .i64 k) ∧ wr.heap[p2]? = some (.cells #[.int .i64 0, .int .i64 0, .bool false] 44 (0, 0)) ∧ Sb w wr p2) := Lib.hid fun wr hb => by
    have e0 := (hb.block p0 (by omega)).trans b0
    have e1 := (hb.block p1 (by omega)).trans b1
    have e2 := (hb.block p2 (by omega)).trans b2
    refine ⟨by rw [cell_of_row _ _ 0 _ _ _ e0]; rfl, by rw [cell_of_row _ _ 1 _ _ _ e0]; rfl, by rw [cell_of_row _ _ 0 _ _ _ e1]; rfl, by rw [cell_of_row _ _ 1 _ _ _ e1]; rfl, e2, by omega, ?_⟩
    rw [hp0] at bb
    exact bb.trans (hb.mono bb.size)
  have HHB : Hid (∀ wr, Below W1.heap.size W1 wr → Ens wr A l) := Lib.hid fun wr hb => by
    rw [hp0] at bb
    exact RowAt.below (RowAt.below h bb) (hb.mono (by omega))
  clear h hl hG hn hW1 hp0 hp1 hp2 b0 b1 b2 bz bb
  go_enter Try.func97, Try.ntmps97
  go_wp2_with fail
  rw [← HW.out, ← HP.out.1, ← HP.out.2.1, ← HP.out.2.2]
  go_loopw [6, 7, 8, 9, 10, 11, 12, 13, 14, 15, 16, 17, 18, 19, 20, 21, 22, 23, 24, 25, 26, 27] (fun ix _ _ _ _ _ _ _ _ _ _ _ _ _ _ _ _ _ _ _ _ _ wr => ∃ z : Nat, ix = .int .i64 (z : Int) ∧ z ≤ n ∧ cellE t k (l.drop z) = G ∧ Below W1.heap.size W1 wr) (fun ix _ _ _ _ _ _ _ _ _ _ _ _ _ _ _ _ _ _ _ _ _ wr => n - (intOf ix).toNat)
  case atStart => exact ⟨0, rfl, Nat.zero_le _, HG.out, Below.refl _ _⟩
  case round =>
    obtain ⟨z, rfl, hz, he, hb⟩ := hrel
    have HE := Lib.hid he
    have HB := Lib.hid hb
    have hf := HF.out wr hb
    obtain ⟨y0, y1, y2, y3, y4, y5⟩ := hf
    have HRR := Lib.hid (fun x y z => res3 y4 x y z)
    have HRN := Lib.hid (fun nq x y z => res3 (W := wr.drewN nq) y4 x y z)
    have HSB := Lib.hid y5
    have HSN : Hid (∀ nq, Sb w (wr.drewN nq) p2) := Lib.hid fun nq => ⟨y5.le, below_dN y5.b⟩
    have HBN : Hid (∀ nq, Below W1.heap.size W1 (wr.drewN nq)) := Lib.hid fun nq => below_dN hb
    have rf := frozen_of y4
    have r0 : wr.cell? ⟨p2, 0, none⟩ = some (.int .i64 0) := by rw [cell_of_row _ _ 0 _ _ _ y4]; rfl
    have r1 : wr.cell? ⟨p2, 1, none⟩ = some (.int .i64 0) := by rw [cell_of_row _ _ 1 _ _ _ y4]; rfl
    have r2 : wr.cell? ⟨p2, 2, none⟩ = some (.bool false) := by rw [cell_of_row _ _ 2 _ _ _ y4]; rfl
    clear he y4 y5
    by_cases hlt : z < n
    · have hzl : z < l.length := by rw [← HN.out]; exact hlt
      obtain ⟨b, off, rfl, hcl⟩ := Ens.cell (HHB.out wr hb) (by omega)
      obtain ⟨x0, x1, x2, x3, x4⟩ := hcl z hzl
      obtain ⟨x, hx⟩ : ∃ x, x = l[z] := ⟨_, rfl⟩
      have hda : l.drop z = x :: l.drop (z + 1) := drop_at (by rw [hx]; exact List.getElem?_eq_getElem hzl)
      rw [← hx] at x0 x1 x2 x3 x4
      have HDA := Lib.hid hda
      have hnb : n ≤ 100000 := by rw [HN.out]; exact HL.out
      clear hcl hx hzl hda hb
      by_cases hk : (x.t : Int) = t ∧ x.x.k = k
      · have HKK : Hid (G = some x.x.c) := Lib.hid (by rw [← HE.out, HDA.out, cellE_hit hk])
        obtain ⟨hk1, hk2⟩ := hk
        have d1 : ((x.t : Int) == t) = true := by rw [hk1]; simp
        have d2 : (x.x.k == k) = true := by rw [hk2]; simp
        clear hk1 hk2
        go_wp2_with fail
        go_quiet (fail)
        go_wp2_with fail
        refine bodyPost_ret (v := .tuple #[.agg #[.int .i64 x.x.c.v, .int .i64 x.x.c.s, .bool x.x.c.dead], .bool true]) (by simp [results, Try.results97, go_sem, (HRN.out _ (.int .i64 x.x.c.v) (.int .i64 x.x.c.s) (.bool x.x.c.dead)).1, (HRN.out _ (.int .i64 x.x.c.v) (.int .i64 x.x.c.s) (.bool x.x.c.dead)).2.1, (HRN.out _ (.int .i64 x.x.c.v) (.int .i64 x.x.c.s) (.bool x.x.c.dead)).2.2]) rfl ⟨by rw [HKK.out]; rfl, ((((HSN.out _).s1 0 _).s1 1 _).s1 2 _).b⟩
      · have HKK : Hid (cellE t k (l.drop (z + 1)) = G) := Lib.hid (by rw [← HE.out, HDA.out, cellE_miss hk])
        by_cases hk1 : (x.t : Int) = t
        · have d1 : ((x.t : Int) == t) = true := by rw [hk1]; simp
          have d2 : (x.x.k == k) = false := by
            have : ¬ x.x.k = k := fun e => hk ⟨hk1, e⟩
            simpa using this
          clear hk hk1
          go_wp2_with fail
          go_quiet (fail)
          go_wp2_with fail
          go_roundw
          case rel => exact ⟨z + 1, by go_num, by omega, HKK.out, HBN.out _⟩
          case measure => simp [intOf]; omega
        · have d1 : ((x.t : Int) == t) = false := by simpa using hk1
          clear hk hk1
          go_wp2_with fail
          go_quiet (fail)
          go_wp2_with fail
          go_roundw
          case rel => exact ⟨z + 1, by go_num, by omega, HKK.out, HBN.out _⟩
          case measure => simp [intOf]; omega
    · obtain rfl : z = n := by omega
      have HKK : Hid (G = none) := Lib.hid (by
        rw [← HE.out, List.drop_of_length_le (by rw [← HN.out]; exact Nat.le_refl _)]; rfl)
      go_wp2_with fail
      refine bodyPost_ret (v := .tuple #[.agg #[.int .i64 0, .int .i64 0, .bool false], .bool false]) (by simp [results, Try.results97, go_sem, (HRR.out (.int .i64 0) (.int .i64 0) (.bool false)).1, (HRR.out (.int .i64 0) (.int .i64 0) (.bool false)).2.1, (HRR.out (.int .i64 0) (.int .i64 0) (.bool false)).2.2]) rfl ⟨by rw [HKK.out]; rfl, (((HSB.out.s1 0 _).s1 1 _).s1 2 _).b⟩
end Go.Proofs.Ytejpjbmbcdgomaa

/- The document's store: Get, Live. -/
namespace Go.Proofs.Ytejpjbmbcdgomaa
set_option maxRecDepth 100000
open Go.RowKit

theorem blocks2 (w : World) (o1 o2 : Obj) : ((w.alloc o1).alloc o2).heap[w.heap.size]? = some o1 ∧ ((w.alloc o1).alloc o2).heap[w.heap.size + 1]? = some o2 ∧ ((w.alloc o1).alloc o2).heap.size = w.heap.size + 2 ∧ Below w.heap.size w ((w.alloc o1).alloc o2) := by
  refine ⟨old_alloc (heap_alloc_new w o1) o2, ?_, by simp, ((Below.refl _ _).alloc (Nat.le_refl _) o1).alloc (by simp) o2⟩
  have := heap_alloc_new (w.alloc o1) o2
  rw [World.size_alloc] at this
  exact this
def getN (o : Option Cl) : Int := match o with | some c => if c.dead then 0 else c.v | none => 0
def getH (o : Option Cl) : Bool := match o with | some c => !c.dead | none => false
set_option maxHeartbeats 8000000 in
theorem r9live_any {w : World} {A : Option Addr} {c : Nat} {l : List En} {last : Int} (h : Ens w A l) (hl : l.length ≤ 100000) : Calls Try.prog 70 #[.agg #[.slice A l.length c, .int .i64 last]] w fun e w' => e = .returned (.int .i64 ((liveE l).length : Int)) ∧ Below w.heap.size w w' := by
  have HL := Lib.hid hl
  obtain ⟨W1, hW1⟩ : ∃ W1, W1 = (w.alloc (.cells #[.slice A l.length c, .int .i64 last] 31)) := ⟨_, rfl⟩
  have b0 : W1.heap[w.heap.size]? = some (.cells #[.slice A l.length c, .int .i64 last] 31 (0, 0)) := by rw [hW1]; exact heap_alloc_new w _
  have bb : Below w.heap.size w W1 := by rw [hW1]; exact (Below.refl _ _).alloc (Nat.le_refl _) _
  have HW := Lib.hid hW1
  have HH := Lib.hid (RowAt.below h bb)
  obtain ⟨n, hn⟩ : ∃ n, n = l.length := ⟨_, rfl⟩
  have r0 : W1.cell? ⟨w.heap.size, 0, none⟩ = some (.slice A n c) := by rw [cell_of_row _ _ 0 _ _ _ b0, hn]; rfl
  have HB := Lib.hid bb
  have HN := Lib.hid hn
  obtain ⟨R, hR⟩ : ∃ R, R = (liveE l).length := ⟨_, rfl⟩
  have HG : Hid (0 + (liveE (l.drop 0)).length = R) := Lib.hid (by rw [hR]; simp)
  rw [← hn] at HW ⊢
  rw [← hR]
  obtain ⟨p0, hp0⟩ : ∃ p0, p0 = w.heap.size := ⟨_, rfl⟩
  have HP := Lib.hid hp0
  rw [← hp0] at r0
  clear hW1 b0 bb h hl hn hR hp0
  go_enter Try.func70, Try.ntmps70
  go_wp2_with fail
  rw [← HW.out, ← HP.out]
  go_loopw [3, 4, 5, 6, 7, 8, 9, 10, 11, 12, 13, 14, 15, 16, 17, 18, 19, 20, 21] (fun cx ix _ _ _ _ _ _ _ _ _ _ _ _ _ _ _ _ _ wr => ∃ z q : Nat, ix = .int .i64 (z : Int) ∧ cx = .int .i64 (q : Int) ∧ z ≤ n ∧ q ≤ z ∧ q + (liveE (l.drop z)).length = R ∧ wr = W1) (fun cx ix _ _ _ _ _ _ _ _ _ _ _ _ _ _ _ _ _ wr => n - (intOf ix).toNat)
  case atStart => exact ⟨0, 0, rfl, rfl, Nat.zero_le _, Nat.le_refl _, HG.out, rfl⟩
  case round =>
    obtain ⟨z, q, rfl, rfl, hz, hqz, he, rfl⟩ := hrel
    have HE := Lib.hid he
    clear he
    by_cases hlt : z < n
    · have hzl : z < l.length := by rw [← HN.out]; exact hlt
      obtain ⟨b, off, rfl, hcl⟩ := Ens.cell HH.out (by omega)
      obtain ⟨x0, x1, x2, x3, x4⟩ := hcl z hzl
      obtain ⟨x, hx⟩ : ∃ x, x = l[z] := ⟨_, rfl⟩
      have hda : l.drop z = x :: l.drop (z + 1) := drop_at (by rw [hx]; exact List.getElem?_eq_getElem hzl)
      rw [← hx] at x0 x1 x2 x3 x4
      have HDA := Lib.hid hda
      have hnb : n ≤ 100000 := by rw [HN.out]; exact HL.out
      clear hcl hx hzl hda
      cases hy : x.x.c.dead with
      | true =>
        rw [hy] at x4
        have HKK : Hid (q + (liveE (l.drop (z + 1))).length = R) := Lib.hid (by
          rw [← HE.out, HDA.out]
          unfold liveE
          rw [List.filter_cons_of_neg (by simp [hy])])
        clear hy
        go_wp2_with fail
        go_roundw
        case rel => exact ⟨z + 1, q, by go_num, by go_num, by omega, by omega, HKK.out, trivial⟩
        case measure => simp [intOf]; omega
      | false =>
        rw [hy] at x4
        have HKK : Hid (q + 1 + (liveE (l.drop (z + 1))).length = R) := Lib.hid (by
          rw [← HE.out, HDA.out]
          unfold liveE
          rw [List.filter_cons_of_pos (by simp [hy]), List.length_cons]
          omega)
        clear hy
        go_wp2_with fail
        go_roundw
        case rel => exact ⟨z + 1, q + 1, by go_num, by go_num, by omega, by omega, HKK.out, trivial⟩
        case measure => simp [intOf]; omega
    · obtain rfl : z = n := by omega
      have HKK : Hid (q = R) := Lib.hid (by
        rw [← HE.out, List.drop_of_length_le (by rw [← HN.out]; exact Nat.le_refl _)]; rfl)
      go_wp2_with fail
      go_ret
      exact ⟨by have := HKK.out; subst this; rfl, HB.out⟩
end Go.Proofs.Ytejpjbmbcdgomaa

/- Get of a store. -/
namespace Go.Proofs.Ytejpjbmbcdgomaa
set_option maxRecDepth 100000
open Go.RowKit

def gok (o : Option Cl) : Bool := o.isSome && !(cv o).dead
def gv (o : Option Cl) : Int := if gok o then (cv o).v else 0
theorem one_gok (o : Option Cl) : one o = if gok o then 1 else 0 := by
  unfold one gok
  cases o with
  | none => rfl
  | some c => show (if c.dead then 0 else 1) = if (true && !c.dead) = true then 1 else 0; cases c.dead <;> rfl
set_option maxHeartbeats 4000000 in
theorem get_gen {w : World} {p : Option Addr} {t k : Int} {o : Option Cl} (h : ∀ w1, Below w.heap.size w w1 → Calls Try.prog 68 #[.pointer p, .agg #[.int .i64 t, .int .i64 k]] w1 fun e w' => e = .returned (ansC o) ∧ Below w1.heap.size w1 w') :
    Calls Try.prog 46 #[.pointer p, .agg #[.int .i64 t, .int .i64 k]] w fun e w' => e = .returned (.tuple #[.int .i64 (gv o), .bool (gok o)]) ∧ Below w.heap.size w w' := by
  have hb : Below w.heap.size w (w.alloc (.cells #[.int .i64 t, .int .i64 k] 42)) := (Below.refl _ _).alloc (Nat.le_refl _) _
  have HB := Lib.hid hb
  have HC := Lib.hid (h _ hb)
  obtain ⟨ok, hok⟩ : ∃ ok, ok = o.isSome := ⟨_, rfl⟩
  obtain ⟨cl, hcl⟩ : ∃ cl, cl = cv o := ⟨_, rfl⟩
  have HG : Hid (gok o = (ok && !cl.dead) ∧ gv o = if (ok && !cl.dead) then cl.v else 0) := Lib.hid ⟨by rw [hok, hcl]; rfl, by rw [hok, hcl]; rfl⟩
  obtain ⟨va, hva⟩ : ∃ va, va = gv o := ⟨_, rfl⟩
  obtain ⟨vb, hvb⟩ : ∃ vb, vb = gok o := ⟨_, rfl⟩
  rw [← hva, ← hvb] at HG ⊢
  unfold ansC at HC
  rw [← hok, ← hcl] at HC
  clear hb h hok hcl hva hvb
  go_enter Try.func46, Try.ntmps46
  go_wp2_with fail
  refine Calls.mono HC.out ?_
  rintro e w2 ⟨rfl, hb2⟩
  have HE := Lib.hid ((HB.out.trans (hb2.mono HB.out.size)).alloc (HB.out.trans (hb2.mono HB.out.size)).size (.cells #[.int .i64 cl.v, .int .i64 cl.s, .bool cl.dead] 44))
  clear hb2
  obtain ⟨dd, hdd⟩ : ∃ dd, dd = cl.dead := ⟨_, rfl⟩
  rw [← hdd] at HE HG ⊢
  clear hdd
  cases ok with
  | false =>
    go_wp2_with fail
    go_ret2
    exact ⟨by rw [HG.out.1, HG.out.2]; rfl, HE.out⟩
  | true =>
    cases dd with
    | true =>
      go_wp2_with fail
      go_ret2
      exact ⟨by rw [HG.out.1, HG.out.2]; rfl, HE.out⟩
    | false =>
      go_wp2_with fail
      go_ret2
      exact ⟨by rw [HG.out.1, HG.out.2]; rfl, HE.out⟩
theorem sget_any {w : World} {G : Nat → Prop} {sb : Nat} {ts : Tb} {live last : Int} (h : SM w G sb ts live last) (t k : Int) :
    Calls Try.prog 46 #[.pointer (some ⟨sb, 0, none⟩), .agg #[.int .i64 t, .int .i64 k]] w fun e w' => e = .returned (.tuple #[.int .i64 (gv (cellAt ts t k)), .bool (gok (cellAt ts t k))]) ∧ Below w.heap.size w w' :=
  get_gen fun _ hb => cell_any (h.below hb) t k
end Go.Proofs.Ytejpjbmbcdgomaa

/- The document's store, pure: put, and what it comes to in the tables. -/
namespace Go.Proofs.Ytejpjbmbcdgomaa
set_option maxRecDepth 100000
open Go.RowKit

def lessE (e f : En) : Bool := lessK e.t e.x.k f.t f.x.k
def sameE (e f : En) : Bool := decide (e.t = f.t ∧ e.x.k = f.x.k)
/-- What the document's put comes to. -/
def goE (f : En) : Bool → List En → List En
  | done, [] => if done then [] else [f]
  | done, e :: l => (if !done && !lessE e f then [f] else []) ++ ((if sameE e f then [] else [e]) ++ goE f (done || !lessE e f) l)
theorem less_same {e f : En} (h : lessE e f = true) : sameE e f = false := by
  unfold lessE lessK at h
  unfold sameE
  simp only [Bool.or_eq_true, Bool.and_eq_true, decide_eq_true_eq] at h
  apply decide_eq_false
  rintro ⟨h1, h2⟩
  omega
theorem goE_lo {f : En} {r : List En} : ∀ l : List En, (∀ e ∈ l, lessE e f = true) → goE f false (l ++ r) = l ++ goE f false r
  | [], _ => rfl
  | e :: l, h => by
    have h1 := h e (by simp)
    have ih := goE_lo (r := r) l fun x hx => h x (by simp [hx])
    rw [List.cons_append, goE, h1, less_same h1]
    show goE f false (l ++ r) |> fun z => [] ++ ([e] ++ z) = _
    simp only [ih, List.nil_append, List.cons_append]
theorem goE_done {f : En} : ∀ l : List En, goE f true l = l.filter fun e => !sameE e f
  | [] => rfl
  | e :: l => by
    rw [goE, Bool.true_or, goE_done l]
    cases hs : sameE e f
    · rw [List.filter_cons_of_pos (by simp [hs])]; rfl
    · rw [List.filter_cons_of_neg (by simp [hs])]; rfl
theorem goE_hi {f : En} {l : List En} (h : ∀ e ∈ l, lessE e f = false) : goE f false l = f :: l.filter fun e => !sameE e f := by
  cases l with
  | nil => rfl
  | cons e l =>
    have h1 := h e (by simp)
    rw [goE, h1, show (false || !false) = true from rfl, goE_done l]
    cases hs : sameE e f
    · rw [List.filter_cons_of_pos (by simp [hs])]; rfl
    · rw [List.filter_cons_of_neg (by simp [hs])]; rfl
theorem mem_tag {t : Nat} {l : List Ix} {e : En} (h : e ∈ tag t l) : e.t = t ∧ e.x ∈ l := by
  unfold tag at h
  obtain ⟨x, hx, rfl⟩ := List.mem_map.1 h
  exact ⟨rfl, hx⟩
theorem mem_allE {ps : Nat → List Ix} {e : En} : ∀ {n i : Nat}, e ∈ allE ps i n → i ≤ e.t ∧ e.t < i + n ∧ e.x ∈ ps e.t
  | 0, _, h => by simp [allE] at h
  | n + 1, i, h => by
    rw [allE, List.mem_append] at h
    rcases h with h | h
    · obtain ⟨h1, h2⟩ := mem_tag h
      exact ⟨by omega, by omega, by rw [h1]; exact h2⟩
    · obtain ⟨h1, h2, h3⟩ := mem_allE h
      exact ⟨by omega, by omega, h3⟩
theorem ents_cut (ts : Tb) {i : Nat} (hi : i < 4) : ents ts = allE ts 0 i ++ (tag i (ts i) ++ allE ts (i + 1) (3 - i)) := by
  unfold ents
  have e : 4 = i + ((3 - i) + 1) := by omega
  rw [e, allE_add, Nat.zero_add, allE]
theorem goE_ents {ts : Tb} {i : Nat} (hi : i < 4) (hu : Up (ts i)) (x : Ix) : goE ⟨i, x⟩ false (ents ts) = ents (ts.upd i (ins x (ts i))) := by
  obtain ⟨a, b, hab, _, h1, h2⟩ := place_cut hu x.k
  have hb : ∀ y ∈ b, x.k ≤ y.k := by
    rcases h2 with ⟨y, b', rfl, hy, h3⟩ | ⟨_, h3⟩
    · intro z hz
      rcases List.mem_cons.1 hz with rfl | hz
      · omega
      · have := h3 z hz; omega
    · intro z hz; have := h3 z hz; omega
  have hins : ins x (ts i) = a ++ x :: b.filter fun y => decide (x.k < y.k) := by
    unfold ins
    rw [hab, List.filter_append, List.filter_append, filter_all (l := a) fun y hy => decide_eq_true (h1 y hy), filter_none (l := b) fun y hy => decide_eq_false (by have := hb y hy; omega), filter_none (l := a) fun y hy => decide_eq_false (by have := h1 y hy; omega), List.append_nil, List.nil_append]
  rw [ents_cut _ hi, ents_cut (ts.upd i _) hi, Tb.upd_same, hins]
  have e1 : allE (ts.upd i (a ++ x :: b.filter fun y => decide (x.k < y.k))) 0 i = allE ts 0 i := allE_congr fun j _ hj => Tb.upd_other _ _ (by omega)
  have e2 : allE (ts.upd i (a ++ x :: b.filter fun y => decide (x.k < y.k))) (i + 1) (3 - i) = allE ts (i + 1) (3 - i) := allE_congr fun j hj _ => Tb.upd_other _ _ (by omega)
  rw [e1, e2, hab]
  have e3 : tag i (a ++ b) = tag i a ++ tag i b := List.map_append ..
  have e4 : tag i (a ++ x :: b.filter fun y => decide (x.k < y.k)) = tag i a ++ (⟨i, x⟩ :: tag i (b.filter fun y => decide (x.k < y.k))) := List.map_append ..
  rw [e3, e4, goE_lo _ fun e he => ?_, List.append_assoc, goE_lo _ fun e he => ?_, goE_hi fun e he => ?_]
  · rw [List.filter_append, List.append_assoc, List.cons_append]
    congr 3
    congr 1
    · unfold tag
      rw [List.filter_map]
      congr 1
      refine List.filter_congr fun y hy => ?_
      show (!sameE ⟨i, y⟩ ⟨i, x⟩) = decide (x.k < y.k)
      unfold sameE
      have := hb y hy
      by_cases h9 : y.k = x.k
      · simp [h9]
      · have h8 : x.k < y.k := by omega
        simp [h9, h8]
    · refine List.filter_eq_self.2 fun e he => ?_
      obtain ⟨h8, _, _⟩ := mem_allE he
      have : e.t ≠ i := by omega
      simp [sameE, this]
  · rw [List.mem_append] at he
    rcases he with he | he
    · obtain ⟨h8, h9⟩ := mem_tag he
      have := hb _ h9
      unfold lessE lessK
      simp [h8]
      omega
    · obtain ⟨h8, _, _⟩ := mem_allE he
      unfold lessE lessK
      have a1 : ¬ (e.t : Int) < (i : Int) := by omega
      have a2 : ¬ (e.t : Int) = (i : Int) := by omega
      simp [a1, a2]
  · obtain ⟨h8, h9⟩ := mem_tag he
    have := h1 _ h9
    unfold lessE lessK
    simp [h8, this]
  · obtain ⟨_, h8, _⟩ := mem_allE he
    unfold lessE lessK
    have a1 : (e.t : Int) < (i : Int) := by omega
    simp [a1]
theorem cellE_append (t k : Int) (a b : List En) : cellE t k (a ++ b) = (cellE t k a).or (cellE t k b) := by
  unfold cellE
  rw [List.find?_append]
  cases a.find? (fun e => decide ((e.t : Int) = t ∧ e.x.k = k)) <;> rfl
theorem cellE_none {t k : Int} {l : List En} (h : ∀ e ∈ l, (e.t : Int) ≠ t) : cellE t k l = none := by
  unfold cellE
  rw [List.find?_eq_none.2 fun e he => by simp [h e he]]
  rfl
theorem cellE_tag (i : Nat) (k : Int) : ∀ l : List Ix, cellE (i : Int) k (tag i l) = getC k l
  | [] => rfl
  | x :: l => by
    have ih := cellE_tag i k l
    show cellE (i : Int) k (⟨i, x⟩ :: tag i l) = _
    rw [getC_cons]
    by_cases h : x.k = k
    · rw [if_pos h]
      exact cellE_hit (e := ⟨i, x⟩) ⟨rfl, h⟩
    · rw [if_neg h, ← ih]
      exact cellE_miss (e := ⟨i, x⟩) fun e => h e.2
theorem cellE_ents (ts : Tb) (t k : Int) : cellE t k (ents ts) = cellAt ts t k := by
  unfold cellAt
  by_cases h : 0 ≤ t ∧ t < 4
  · rw [if_pos h]
    obtain ⟨i, rfl⟩ : ∃ i : Nat, t = (i : Int) := ⟨t.toNat, by omega⟩
    have hi : i < 4 := by omega
    rw [ents_cut ts hi, cellE_append, cellE_append, cellE_tag, cellE_none fun e he => ?_, cellE_none fun e he => ?_, Int.toNat_natCast]
    · simp
    · obtain ⟨h8, _, _⟩ := mem_allE he; omega
    · obtain ⟨_, h8, _⟩ := mem_allE he; omega
  · rw [if_neg h]
    exact cellE_none fun e he => by
      obtain ⟨_, h8, _⟩ := mem_allE he
      omega
/-- The document's put, as a whole. -/
def putE (q : Int) (l : List En) (x : Wr) : List En := if stay q (cellE x.t x.k l) then l else goE ⟨x.t.toNat, ⟨x.k, x.cl q⟩⟩ false l
theorem putE_ents {q : Int} {ts : Tb} {x : Wr} (hu : ∀ i, i < 4 → Up (ts i)) (hx : InT x.t) : putE q (ents ts) x = ents (putW q ts x) := by
  unfold putE putW
  rw [cellE_ents]
  split
  · rfl
  · unfold InT at hx
    exact goE_ents (by omega) (hu _ (by omega)) _
theorem foldE_ents {q : Int} : ∀ (ws : List Wr) {ts : Tb}, (∀ i, i < 4 → Up (ts i)) → (∀ x ∈ ws, InT x.t) → ws.foldl (putE q) (ents ts) = ents (forceT q ts ws)
  | [], _, _, _ => rfl
  | x :: ws, ts, hu, hx => by
    show ws.foldl (putE q) (putE q (ents ts) x) = ents (forceT q (putW q ts x) ws)
    rw [putE_ents hu (hx x (by simp)), foldE_ents ws (up_putW hu) fun y hy => hx y (by simp [hy])]
end Go.Proofs.Ytejpjbmbcdgomaa
