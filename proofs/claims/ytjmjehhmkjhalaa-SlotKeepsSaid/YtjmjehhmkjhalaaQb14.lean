/- DNew: put together. -/
import Derived.Test.YtjmjehhmkjhalaaQb13
import Derived.Deep.CutRange
import Derived.Deep.CutBlock
/- New. -/
namespace Go.Proofs.Ytjmjehhmkjhalaa
set_option maxRecDepth 100000
open Go.RowKit

def Dk.new (n : Nat) : Dk := ⟨n, fun _ => Sx.zero, []⟩
def DM.new (n m : Nat) : DM := ⟨Dk.new n, m, 0, .slice none 0 0⟩
def pw0 : Pw := ⟨0, 0, false, false⟩
def numV (n : Nat) : List Value := [.int .i64 (n : Int)]
abbrev Sz (w : World) (A : Option Addr) (l : List Nat) : Prop := RowAt numV 1 w A l.length l
theorem own_ne {w : World} {B B' e e' s s' n n' : Nat} {v v' : Value} {xs xs' : List Value} (h : w.ownsRow B e s v n xs) (h' : w.ownsRow B' e' s' v' n' xs') (he : e ≠ e') (k : Nat) (hk : v'.ownBlock = some k) : v.ownBlock ≠ some k := by
  rcases h'.2 with ⟨rfl, _⟩ | ⟨b, cap, cur, rfl, _, hb, _⟩
  · cases hk
  · injection hk with hk
    subst hk
    exact type_ne h hb he
theorem SetM.box (w : World) : SetM (w.alloc (.cells #[.int .i64 0, .int .i64 0, .bool false, .bool false, .slice none 0 0] 147)) (fun k => k = w.heap.size) w.heap.size pw0 (.slice none 0 0) [] :=
  ⟨rfl, (fun k e => by rw [World.size_alloc]; omega), heap_alloc_new w _, ⟨rfl, .inl ⟨rfl, rfl⟩⟩, (fun k e => by cases e), fun j h => absurd h (Nat.not_lt_zero _), fun i j h => absurd h (Nat.not_lt_zero _)⟩
section
variable {w : World} {F : Nat → Prop} {g : Nat} {p : Pw} {v : Value} {L : List DM}
/-- One device more. -/
theorem SetM.newdisk {n : Nat} {o : Obj} {v' : Value} {W' : World} (h : SetM w F g p v L)
    (ho : W'.ownsRow 0 151 3 v' (L.length + 1) (rowV DM.vals L ++ (DM.new n w.heap.size).vals))
    (hg : ((w.alloc (.map #[] 0)).alloc o).grownBy W' v.ownBlock) (hk : v'.ownBlock = v.ownBlock ∨ v'.ownBlock = some ((w.alloc (.map #[] 0)).alloc o).heap.size) :
    W'.cell? ⟨g, 4, none⟩ = some v ∧ W'.frozen? ⟨g, 4, none⟩ = false ∧
    SetM (W'.setCell ⟨g, 4, none⟩ v') (fun k => F k ∨ k = w.heap.size ∨ v'.ownBlock = some k) g p v' (L ++ [DM.new n w.heap.size]) ∧ Chg w (W'.setCell ⟨g, 4, none⟩ v') F (fun k => F k ∨ k = w.heap.size ∨ v'.ownBlock = some k) := by
  have hsz := hg.size
  rw [World.size_alloc, World.size_alloc] at hsz hk
  have hvg : v.ownBlock ≠ some g := type_ne h.own h.block (by decide)
  have hkeep : ∀ k, k < w.heap.size → v.ownBlock ≠ some k → W'.heap[k]? = w.heap[k]? := fun k hk hne => (hg.block k (by rw [World.size_alloc, World.size_alloc]; omega) (fun e => hne e.symm)).trans ((heap_alloc_old _ o (by rw [World.size_alloc]; omega)).trans (heap_alloc_old w _ hk))
  have hmap : W'.heap[w.heap.size]? = (w.alloc (.map #[] 0)).heap[w.heap.size]? := (hg.block _ (by rw [World.size_alloc, World.size_alloc]; omega) (fun e => by have := h.Flt _ (h.Fv _ e.symm); omega)).trans (heap_alloc_old _ o (by rw [World.size_alloc]; omega))
  have hgb := (hkeep g h.glt hvg).trans h.block
  have keep2 : ∀ k, k ≠ g → (W'.setCell ⟨g, 4, none⟩ v').heap[k]? = W'.heap[k]? := fun k hk => Deep.blk_setCell_other W' ⟨g, 4, none⟩ v' k hk
  have hv2 : ∀ q, v'.ownBlock = some q → q ≠ g := fun q e e2 => type_ne ho hgb (by decide) (by rw [e, e2])
  have glt := h.glt
  have old : ∀ j (hj : j < L.length), DMok (W'.setCell ⟨g, 4, none⟩ v') (fun k => F k ∨ k = w.heap.size ∨ v'.ownBlock = some k) L[j] := fun j hj => by
    have hd := h.each j hj
    exact ⟨hd.map.keep ((keep2 _ (map_ne hd.map h.block)).trans (hkeep _ (h.Flt _ hd.Fm) (map_row hd.map h.own))), .inl hd.Fm, own_same hd.waits fun q e => (keep2 q (fun e2 => type_ne hd.waits h.block (by decide) (by rw [e, e2]))).trans (hkeep q (h.Flt q (hd.Fw q e)) (own_ne h.own hd.waits (by decide) q e)), fun q e => .inl (hd.Fw q e)⟩
  have new : DMok (W'.setCell ⟨g, 4, none⟩ v') (fun k => F k ∨ k = w.heap.size ∨ v'.ownBlock = some k) (DM.new n w.heap.size) :=
    ⟨(MapS.made w).keep ((keep2 _ (by omega)).trans hmap), .inr (.inl rfl), ⟨rfl, .inl ⟨rfl, rfl⟩⟩, fun q e => by cases e⟩
  refine ⟨(cell_of_row W' g 4 _ _ (0, 0) hgb).trans rfl, frozen_at hgb 4, ⟨.inl h.Fg, fun k hk => ?_, ?_, ?_, fun k e => .inr (.inr e), fun j hj => ?_, fun i j hi hj hne => ?_⟩, ⟨hg.os, hg.tape, hg.output, by rw [World.size_setCell]; omega, fun k hk hne => ?_, fun k e => ?_⟩⟩
  · rw [World.size_setCell]
    rcases hk with e | e | e
    · have := h.Flt k e; omega
    · omega
    · exact (ho.lt k e).2
  · exact (box_set hgb 4 v').trans (by rfl)
  · rw [List.length_append, rowV_append]
    have e : rowV DM.vals [DM.new n w.heap.size] = (DM.new n w.heap.size).vals := by simp [rowV]
    rw [e]
    exact own_same ho fun q e => keep2 q (hv2 q e)
  · rw [List.getElem_append]
    split
    · exact old j _
    · have e : j - L.length = 0 := by rw [List.length_append] at hj; simp at hj; omega
      simp only [e, List.getElem_cons_zero]
      exact new
  · rw [List.length_append] at hi hj
    simp only [List.length_singleton] at hi hj
    rw [List.getElem_append, List.getElem_append]
    by_cases h1 : i < L.length
    · by_cases h2 : j < L.length
      · rw [dif_pos h1, dif_pos h2]
        exact h.apart i j h1 h2 hne
      · have e : j - L.length = 0 := by omega
        rw [dif_pos h1, dif_neg h2]
        simp only [e, List.getElem_cons_zero]
        exact ⟨fun e2 => by have := h.Flt _ (h.each i h1).Fm; rw [e2] at this; exact absurd this (Nat.lt_irrefl _), fun k _ e2 => by cases e2⟩
    · have e : i - L.length = 0 := by omega
      by_cases h2 : j < L.length
      · rw [dif_neg h1, dif_pos h2]
        simp only [e, List.getElem_cons_zero]
        exact ⟨fun e2 => by have := h.Flt _ (h.each j h2).Fm; rw [← e2] at this; exact absurd this (Nat.lt_irrefl _), fun k e2 => by cases e2⟩
      · omega
  · have hkg : k ≠ g := fun e => hne (by rw [e]; exact h.Fg)
    exact (keep2 k hkg).trans (hkeep k hk (fun e => hne (h.Fv k e)))
  · rcases e with e | e | e
    · exact .inl e
    · exact .inr (by omega)
    · rcases hk with e2 | e2
      · exact .inl (h.Fv k (e2.symm.trans e))
      · right; rw [e2] at e; injection e with e; omega
end
theorem rdv_dm (w : World) (n m : Nat) : Rdv (w.alloc (.cells #[.int .i64 (n : Int), .map (some m), .slice none 0 0] 151)) (some ⟨w.heap.size, 0, none⟩) 1 3 (DM.new n m).vals :=
  ⟨rfl, fun _ => ⟨_, _, rfl, fun j u hj => by
    rw [Nat.zero_add, cell_of_row _ _ j #[.int .i64 (n : Int), .map (some m), .slice none 0 0] _ (0, 0) (heap_alloc_new w _)]
    have e : (DM.new n m).vals = [.int .i64 (n : Int), .map (some m), .slice none 0 0] := rfl
    rw [e] at hj
    simpa using hj⟩⟩
theorem DM.one (n m : Nat) : ∀ u ∈ (DM.new n m).vals, u.oneCell' = true := by
  intro u hu
  unfold DM.vals at hu
  simp at hu
  rcases hu with rfl | rfl | rfl <;> rfl
theorem Chg.cell' {w w' : World} {F F' : Nat → Prop} (h : Chg w w' F F') {p : Addr} (hp : p.block < w.heap.size) (hn : ¬ F p.block) : w'.cell? p = w.cell? p := World.cell?_of_block (h.block _ hp hn)
theorem Sz.cell {w : World} {A : Option Addr} {l : List Nat} (h : Sz w A l) (hn : 0 < l.length) : ∃ b off, A = some ⟨b, off, none⟩ ∧ ∀ q (hq : q < l.length), w.cell? ⟨b, off + q, none⟩ = some (.int .i64 (l[q] : Int)) := by
  obtain ⟨b, off, e, hc⟩ := RowAt.cells h (fun _ => rfl) hn
  refine ⟨b, off, e, fun q hq => ?_⟩
  have := hc q hq 0 _ (by omega) rfl
  rwa [Nat.mul_one, Nat.add_zero] at this
set_option maxHeartbeats 2000000 in
theorem new_yes (A : Option Addr) (c : Nat) (l : List Nat) (w : World) (h : Sz w A l) (hl : 1 ≤ l.length ∧ l.length ≤ 5) (hs : ∀ n ∈ l, 1 ≤ n ∧ n ≤ 4096) :
    Calls Try.prog 16 #[.slice A l.length c] w fun e w' => ∃ F g v L, e = .returned (.tuple #[.pointer (some ⟨g, 0, none⟩), .nilIface]) ∧ SetM w' F g pw0 v L ∧ L.map DM.dk = l.map Dk.new ∧ (∀ d ∈ L, d.n = 0) ∧ Chg w w' (fun _ => False) F := by
  obtain ⟨n, hn⟩ : ∃ n, n = l.length := ⟨_, rfl⟩
  have HN := Lib.hid hn
  have HH := Lib.hid h
  have HS := Lib.hid hs
  have HB := Lib.hid (SetM.box w)
  have hz := Chg.of_below ((Below.refl w.heap.size w).alloc (Nat.le_refl _) (.cells #[.int .i64 0, .int .i64 0, .bool false, .bool false, .slice none 0 0] 147)) (fun _ => False)
  have HC := Lib.hid (show Chg w (w.alloc (.cells #[.int .i64 0, .int .i64 0, .bool false, .bool false, .slice none 0 0] 147)) (fun _ => False) (fun k => k = w.heap.size) from ⟨hz.os, hz.tape, hz.output, hz.size, hz.block, fun k e => .inr (by omega)⟩)
  clear hz
  rw [← hn] at hl ⊢
  have g1 : decide ((n : Int) < 1) = false := by rw [decide_eq_false_iff_not]; omega
  have g2 : decide ((n : Int) > 5) = false := by rw [decide_eq_false_iff_not]; omega
  clear h hs hn
  go_enter Try.func16, Try.ntmps16
  go_wp2_with fail
  go_loopw [6, 20] (fun _ i wr => ∃ (q : Nat) (F : Nat → Prop) (v : Value) (L : List DM), i = .int .i64 (q : Int) ∧ q ≤ n ∧ SetM wr F w.heap.size pw0 v L ∧ L.map DM.dk = (l.take q).map Dk.new ∧ (∀ d ∈ L, d.n = 0) ∧ Chg w wr (fun _ => False) F) (fun _ i _ => n - (intOf i).toNat)
  case atStart => exact ⟨0, _, _, [], rfl, by omega, HB.out, rfl, (fun d hd => by cases hd), HC.out⟩
  case round =>
    obtain ⟨q, F, v, L, rfl, hq, h2, h3, h4, h5⟩ := hrel
    have hL : L.length = q := by
      have := congrArg List.length h3
      rw [List.length_map, List.length_map, List.length_take, ← HN.out, Nat.min_eq_left hq] at this
      exact this
    have H2 := Lib.hid h2
    have H3 := Lib.hid h3
    have H4 := Lib.hid h4
    have H5 := Lib.hid h5
    by_cases hlt : q < n
    · have hql : q < l.length := by rw [← HN.out]; exact hlt
      obtain ⟨b, off, rfl, hc⟩ := Sz.cell HH.out (by omega)
      have x0 := (h5.cell' (World.block_lt_of_cell? _ _ (hc q hql)) (fun e => e)).trans (hc q hql)
      obtain ⟨y1, y2⟩ := HS.out _ (List.getElem_mem hql)
      obtain ⟨m, hm⟩ : ∃ m, m = l[q] := ⟨_, rfl⟩
      have HM := Lib.hid hm
      have H2' := Lib.hid (show wr.ownsRow 0 151 3 v q (rowV DM.vals L) by rw [← hL]; exact h2.own)
      rw [← hm] at x0 y1 y2
      have g3 : decide ((m : Int) < 1) = false := by rw [decide_eq_false_iff_not]; omega
      have g4 : decide ((m : Int) > 4096) = false := by rw [decide_eq_false_iff_not]; omega
      obtain ⟨_, _, _, _, z4⟩ := h2.c
      clear hc h2 h3 h4 h5 hm
      have hmk := run_makeMap (P := Try.prog) 148 wr
      go_wp2_with (at_builtin; refine wpList_append_rowv elem75 rfl (.tmp 35) (.tmp 39) rfl 0 v q (rowV DM.vals L) rfl ((H2'.out.alloc (.map #[] 0)).alloc (.cells #[.int .i64 (m : Int), .map (some wr.heap.size), .slice none 0 0] 151)) (some ⟨wr.heap.size + 1, 0, none⟩) 1 1 (DM.new m wr.heap.size).vals rfl (by have := rdv_dm (wr.alloc (.map #[] 0)) m wr.heap.size; rwa [World.size_alloc] at this) (DM.one _ _) (fun h => by cases h) (by unfold maxLen; omega) (by omega) (by omega) ?_; intro v6 w6 hown6 hg6 hb6; obtain ⟨A6, c6, rfl, _, _, _⟩ := rdv_own hown6; have hnd := H2.out.newdisk (n := m) (o := .cells #[.int .i64 (m : Int), .map (some wr.heap.size), .slice none 0 0] 151) (by rw [hL]; exact hown6) hg6 hb6; obtain ⟨q1, q2, q3, q4⟩ := hnd; have Q3 := Lib.hid q3; have Q4 := Lib.hid (H5.out.trans q4); clear q3 q4 hown6 hg6 hb6)
      go_roundw
      case rel =>
        refine ⟨q + 1, _, _, L ++ [DM.new m wr.heap.size], by go_num, by omega, Q3.out, ?_, ?_, Q4.out⟩
        · rw [List.map_append, H3.out, List.take_succ_eq_append_getElem hql, List.map_append, ← HM.out]
          rfl
        · intro d hd
          rcases List.mem_append.1 hd with e | e
          · exact H4.out d e
          · rw [List.mem_singleton.1 e]; rfl
      case measure => simp [intOf]; omega
    · obtain rfl : q = n := by omega
      clear h2 h3 h4 h5
      go_wp2_with fail
      go_ret2
      refine ⟨F, w.heap.size, v, L, rfl, H2.out, ?_, H4.out, H5.out⟩
      have := H3.out
      rwa [HN.out, List.take_length] at this
end Go.Proofs.Ytjmjehhmkjhalaa
