/- FTakeK, FTakeD, FTakeF: put together. -/
import Derived.Test.YtmicheheibkmjaaFPutM
import Derived.Test.YtmicheheibkmjaaFIns
import Derived.Test.YtmicheheibkmjaaFJoinW
/- How many rows are read, and keys. -/
namespace Go.Proofs.Ytmicheheibkmjaa
set_option maxRecDepth 100000
open Go.RowKit

theorem rowsN_le (bs : List Nat) : rowsN bs ≤ (rcount bs).2.1.length + 1 := Nat.min_le_right _ _
theorem rcount_len (bs : List Nat) (hs : ∀ b ∈ bs, b < 256) : (rcount bs).2.1.length ≤ bs.length := by
  rcases rcnt_ways 10 0 0 bs with e | ⟨x, rest, e⟩
  · rw [show rcount bs = _ from e]; simp
  · have e1 := (rcount_yes hs e).1
    rw [show rcount bs = _ from e]
    have := congrArg List.length e1
    rw [List.length_append] at this
    simp only
    omega
set_option maxHeartbeats 1000000 in
theorem rows_any (B : Nat → Prop) (V : Value) (bs : List Nat) (bad : Bool) (w : World) (h : Rdr w B V bs bad) (hl : bs.length ≤ 1000000000) :
    Calls Try.prog 54 #[V] w fun e w' => e = .returned (.int .u64 ((rowsN bs : Nat) : Int)) ∧ Rdr w' B V (rcount bs).2.1 (rcount bs).2.2 ∧ Only w w' V := by
  have HC := Lib.hid (rcount_any B V bs bad w h)
  have hlt := rcount_lt bs h.small'
  have hle := rcount_len bs h.small'
  have hdef : rowsN bs = min (rcount bs).1 ((rcount bs).2.1.length + 1) := rfl
  obtain ⟨m, hm⟩ : ∃ m, m = rowsN bs := ⟨_, rfl⟩
  rw [← hm] at hdef ⊢
  obtain ⟨n, hn⟩ : ∃ n, n = (rcount bs).1 := ⟨_, rfl⟩
  obtain ⟨r, hr⟩ : ∃ r, r = (rcount bs).2.1 := ⟨_, rfl⟩
  obtain ⟨d, hd⟩ : ∃ d, d = (rcount bs).2.2 := ⟨_, rfl⟩
  rw [← hn] at HC hlt hdef
  rw [← hr] at HC hle hdef ⊢
  rw [← hd] at HC ⊢
  have HD := Lib.hid hdef
  clear h hm hn hr hd hdef
  go_enter Try.func54, Try.ntmps54
  go_wp2_with fail
  refine Calls.mono HC.out ?_
  rintro e w1 ⟨rfl, h1, h2⟩
  have HL := Lib.hid (left_any B V r d w1 h1)
  obtain ⟨k, hk⟩ : ∃ k, k = r.length := ⟨_, rfl⟩
  rw [← hk] at HL hle HD
  have H1 := Lib.hid h1
  have H2 := Lib.hid h2
  clear h1 h2 hk
  have e1 : IntKind.u64.wrap (k : Int) = ((k : Nat) : Int) := by rw [IntKind.wrap_u64]; omega
  go_wp2_with fail
  refine Calls.mono HL.out ?_
  rintro e w2 ⟨rfl, rfl⟩
  go_wp2_with fail
  go_ret
  refine ⟨?_, H1.out, H2.out⟩
  rw [HD.out, ← show min (n : Int) ((k : Int) + 1) = ((min n (k + 1) : Nat) : Int) by omega]
  rfl
theorem own_only {w w' : World} {B e size n : Nat} {v V : Value} {xs : List Value} (h : w.ownsRow B e size v n xs) (ho : Only w w' V) (hV : ∀ k, V = .pointer (some ⟨k, 0, none⟩) → k < B) : w'.ownsRow B e size v n xs := by
  refine ⟨h.1, ?_⟩
  rcases h.2 with h0 | ⟨g, cap, cur, rfl, h1, h2, h3⟩
  · exact .inl h0
  · exact .inr ⟨g, cap, cur, rfl, h1, (ho.block g (Array.getElem?_eq_some_iff.1 h2).1 (fun e => by have := hV g e; omega)).trans h2, h3⟩
/-- Keys that are read: a reader, and a row of one's own. -/
structure TKI (w W : World) (B : Nat → Prop) (V v : Value) (pre : List K) (bs : List Nat) (bad : Bool) : Prop where
  rdr : Rdr W B V bs bad
  only : Only w W V
  own : W.ownsRow w.heap.size 24 2 v pre.length (rowV K.vals pre)
section
variable {w W W' : World} {B : Nat → Prop} {V v v' : Value} {pre : List K} {bs bs' : List Nat} {bad bad' : Bool}
theorem TKI.step (h : TKI w W B V v pre bs bad) (hB : ∀ k, B k → k < w.heap.size) (hr : Rdr W' B V bs' bad') (ho : Only W W' V) : TKI w W' B V v pre bs' bad' :=
  ⟨hr, h.only.trans ho, own_only h.own ho fun k e => hB k (h.rdr.low' k e)⟩
theorem TKI.push (h : TKI w W B V v pre bs bad) (hB : ∀ k, B k → k < w.heap.size) (y : K) {o : Obj} (ho : W'.ownsRow w.heap.size 24 2 v' (pre.length + 1) (rowV K.vals pre ++ y.vals)) (hg : (W.alloc o).grownBy W' v.ownBlock) : TKI w W' B V v' (pre ++ [y]) bs bad := by
  have hs := h.only.size
  have hs2 := hg.size
  rw [World.size_alloc] at hs2
  have keep : ∀ k, k < w.heap.size → W'.heap[k]? = W.heap[k]? := fun k hk => (hg.block k (by rw [World.size_alloc]; omega) (fun e => by have := (h.own.lt k e.symm).1; omega)).trans (heap_alloc_old W o (by omega))
  refine ⟨h.rdr.stays (by omega) fun k _ hBk => keep k (hB k hBk), ⟨hg.os.trans h.only.os, hg.tape.trans h.only.tape, hg.output.trans h.only.output, by omega, fun k hk hV => (keep k hk).trans (h.only.block k hk hV)⟩, ?_⟩
  rw [List.length_append, rowV_append]
  have e : rowV K.vals [y] = y.vals := by simp [rowV]
  rw [e]
  exact ho
end
theorem loop_next {α : Type} (R : List Nat → α × List Nat × Bool) (m : Nat) (bs : List Nat) (bad : Bool) (pre : List α) (all : List α × List Nat × Bool) (hm : 0 < m) (h : (pre ++ (loopR R m bs bad).1, (loopR R m bs bad).2) = all) :
    ((pre ++ [(R bs).1]) ++ (loopR R (m - 1) (R bs).2.1 (R bs).2.2).1, (loopR R (m - 1) (R bs).2.1 (R bs).2.2).2) = all := by
  obtain ⟨k, rfl⟩ : ∃ k, m = k + 1 := ⟨m - 1, by omega⟩
  rw [← h]
  simp only [loopR, Nat.add_sub_cancel, List.append_assoc, List.cons_append, List.nil_append]
set_option maxHeartbeats 4000000 in
theorem takeKeys_any (B : Nat → Prop) (V : Value) (bs : List Nat) (bad : Bool) (w : World) (h : Rdr w B V bs bad) (hB : ∀ k, B k → k < w.heap.size) (hl : bs.length ≤ 1000000000) :
    Calls Try.prog 53 #[V] w fun e w' => ∃ v, e = .returned v ∧ TKI w w' B V v (listP kR bs).1 (listP kR bs).2.1 (listP kR bs).2.2 := by
  have HRO := Lib.hid (rows_any B V bs bad w h hl)
  have hrl := rowsN_le bs
  have hle := rcount_len bs h.small'
  have hdef : listP kR bs = loopR kR (rowsN bs) (rcount bs).2.1 (rcount bs).2.2 := rfl
  obtain ⟨L, hL⟩ : ∃ L, L = listP kR bs := ⟨_, rfl⟩
  rw [← hL] at hdef ⊢
  obtain ⟨m, hm⟩ : ∃ m, m = rowsN bs := ⟨_, rfl⟩
  obtain ⟨r, hr⟩ : ∃ r, r = (rcount bs).2.1 := ⟨_, rfl⟩
  obtain ⟨d, hd⟩ : ∃ d, d = (rcount bs).2.2 := ⟨_, rfl⟩
  rw [← hm, ← hr, ← hd] at hdef
  rw [← hm, ← hr, ← hd] at HRO
  rw [← hm, ← hr] at hrl
  rw [← hr] at hle
  have HD := Lib.hid hdef
  have HB := Lib.hid hB
  have hm9 : m ≤ 1000000001 := by omega
  clear h hm hr hd hdef hL hrl hle hB
  go_enter Try.func53, Try.ntmps53
  go_wp2_with fail
  refine Calls.mono HRO.out ?_
  rintro e w1 ⟨rfl, h1, h2⟩
  have H1 := Lib.hid (show TKI w w1 B V (.slice none 0 0) [] r d from ⟨h1, h2, World.ownsRow_nil _ _ _ _⟩)
  clear h1 h2
  go_wp2_with fail
  go_loopw [3, 6] (fun v i wr => ∃ (q : Nat) (v' : Value) (pre : List K) (bs' : List Nat) (bad' : Bool), v = v' ∧ i = .int .u64 (q : Int) ∧ q ≤ m ∧ pre.length = q ∧ Hid ((pre ++ (loopR kR (m - q) bs' bad').1, (loopR kR (m - q) bs' bad').2) = L) ∧ TKI w wr B V v' pre bs' bad') (fun _ i _ => m - (intOf i).toNat)
  case atStart => exact ⟨0, _, [], r, d, rfl, rfl, by omega, rfl, by rw [HD.out]; exact Lib.hid rfl, H1.out⟩
  case round =>
    obtain ⟨q, v', pre, bs', bad', rfl, rfl, hq, hpl, hpre, hti⟩ := hrel
    have HTI := Lib.hid hti
    have HPL := Lib.hid hpl
    by_cases hlt : q < m
    · have HN := Lib.hid (loop_next kR (m - q) bs' bad' pre L (by omega) hpre.out)
      have hk : kR bs' = (⟨wrap64 ((rcount bs').1 : Int), unfoldN (rcount (rcount bs').2.1).1⟩, (rcount (rcount bs').2.1).2) := rfl
      rw [hk] at HN
      have HC := Lib.hid (rcount_any B V bs' bad' wr hti.rdr)
      obtain ⟨u, hu⟩ : ∃ u, u = (rcount bs').1 := ⟨_, rfl⟩
      have hul : u < 18446744073709551616 := by rw [hu]; exact rcount_lt bs' hti.rdr.small'
      rw [← hu] at HC HN
      clear hti hu hk hpl
      go_wp2_with fail
      refine Calls.mono HC.out ?_
      rintro e w2 ⟨rfl, h3, h4⟩
      have H3 := Lib.hid (HTI.out.step HB.out h3 h4)
      have HNU := Lib.hid (rnum_any B V _ _ w2 h3)
      obtain ⟨z, hz⟩ : ∃ z, z = unfoldN (rcount (rcount bs').2.1).1 := ⟨_, rfl⟩
      rw [← hz] at HNU HN
      clear h3 h4 hz
      go_wp2_with fail
      refine Calls.mono HNU.out ?_
      rintro e w3 ⟨rfl, h5, h6⟩
      have H5 := Lib.hid (H3.out.step HB.out h5 h6)
      clear h5 h6
      go_wp2_with (at_builtin; refine wpList_append_rowv elem27 rfl (.tmp 8) (.tmp 15) rfl w.heap.size _ _ _ rfl (H5.out.own.alloc (.cells #[.int .i64 (wrap64 (u : Int)), .int .i64 z] 24)) (some ⟨w3.heap.size, 0, none⟩) 1 1 [.int .i64 (wrap64 (u : Int)), .int .i64 z] rfl (rdv_two w3 _ _ 24) (vals_one ⟨_, _⟩) (fun h => by cases h) (by unfold maxLen; have := HPL.out; omega) (by have := HPL.out; omega) (by have := H5.out.only.size; rw [World.size_alloc]; omega) ?_; intro v4 w4 hown hg _; have H7 := Lib.hid (H5.out.push HB.out ⟨wrap64 (u : Int), z⟩ hown hg); clear hown hg)
      go_roundw
      case rel => exact ⟨q + 1, v4, pre ++ [⟨wrap64 (u : Int), z⟩], _, _, rfl, by go_num, by omega, by rw [List.length_append, HPL.out]; rfl, by have := HN.out; rw [show m - q - 1 = m - (q + 1) by omega] at this; exact Lib.hid this, H7.out⟩
      case measure => simp [intOf]; omega
    · obtain rfl : q = m := by omega
      have hp := hpre.out
      rw [Nat.sub_self] at hp
      have HP := Lib.hid (show (pre, bs', bad') = L by rw [← hp]; simp [loopR])
      clear hp hti hpl
      go_wp2_with fail
      go_ret
      refine ⟨_, rfl, ?_⟩
      rw [← HP.out]
      exact HTI.out
end Go.Proofs.Ytmicheheibkmjaa

/- foot.Take: its memory. -/
namespace Go.Proofs.Ytmicheheibkmjaa
set_option maxRecDepth 100000
open Go.RowKit Go.Shelf

theorem own_base {w : World} {B e size n : Nat} {v : Value} {xs : List Value} (h : w.ownsRow B e size v n xs) : w.ownsRow 0 e size v n xs := by
  refine ⟨h.1, ?_⟩
  rcases h.2 with h0 | ⟨g, cap, cur, e1, _, h2⟩
  · exact .inl h0
  · exact .inr ⟨g, cap, cur, e1, Nat.zero_le _, h2⟩
/-- A foot under way in a box, and a reader. -/
structure TSI (W1 W : World) (B : Nat → Prop) (V : Value) (M bx : Nat) (v1 v2 : Value) (r1 : List K) (r2 : List Sp) (bs : List Nat) (bad : Bool) : Prop where
  rdr : Rdr W B V bs bad
  os : W.os = W1.os
  tape : W.tape = W1.tape
  output : W.output = W1.output
  size : W1.heap.size ≤ W.heap.size
  keep : ∀ k, k < M → V ≠ .pointer (some ⟨k, 0, none⟩) → W.heap[k]? = W1.heap[k]?
  box : W.heap[bx]? = some (.cells #[v1, v2, nilS] 30 (0, 0))
  o1 : W.ownsRow M 24 2 v1 r1.length (rowV K.vals r1)
  o2 : W.ownsRow W1.heap.size 54 3 v2 r2.length (rowV Sp.vals r2)
section
variable {W1 W W' : World} {B : Nat → Prop} {V v1 v2 v2' : Value} {M bx : Nat} {r1 : List K} {r2 : List Sp} {bs bs' : List Nat} {bad bad' : Bool}
/-- Where things lie. -/
structure Lay (W1 : World) (B : Nat → Prop) (M bx : Nat) : Prop where
  rdr : ∀ k, B k → k < M
  box : M ≤ bx
  low : bx < W1.heap.size
theorem TSI.step (h : TSI W1 W B V M bx v1 v2 r1 r2 bs bad) (L : Lay W1 B M bx) (hr : Rdr W' B V bs' bad') (ho : Only W W' V) : TSI W1 W' B V M bx v1 v2 r1 r2 bs' bad' := by
  have hV : ∀ k, V = .pointer (some ⟨k, 0, none⟩) → k < M := fun k e => L.rdr k (h.rdr.low' k e)
  have := L.box
  have := L.low
  refine ⟨hr, ho.os.trans h.os, ho.tape.trans h.tape, ho.output.trans h.output, Nat.le_trans h.size ho.size, fun k hk hne => (ho.block k (by have := h.size; omega) hne).trans (h.keep k hk hne), ?_, own_only h.o1 ho hV, own_only h.o2 ho fun k e => by have := hV k e; omega⟩
  exact (ho.block bx (Array.getElem?_eq_some_iff.1 h.box).1 (fun e => by have := hV bx e; omega)).trans h.box
theorem TSI.push (h : TSI W1 W B V M bx v1 v2 r1 r2 bs bad) (L : Lay W1 B M bx) (y : Sp) {o : Obj} (ho : W'.ownsRow W1.heap.size 54 3 v2' (r2.length + 1) (rowV Sp.vals r2 ++ y.vals)) (hg : (W.alloc o).grownBy W' v2.ownBlock) :
    W'.heap[bx]? = some (.cells #[v1, v2, nilS] 30 (0, 0)) ∧ TSI W1 (W'.setCell ⟨bx, 1, none⟩ v2') B V M bx v1 v2' r1 (r2 ++ [y]) bs bad := by
  have hs := h.size
  have hs2 := hg.size
  rw [World.size_alloc] at hs2
  have l1 := L.box
  have l2 := L.low
  have keep : ∀ k, k < W1.heap.size → W'.heap[k]? = W.heap[k]? := fun k hk => (hg.block k (by rw [World.size_alloc]; omega) (fun e => by have := (h.o2.lt k e.symm).1; omega)).trans (heap_alloc_old W o (by omega))
  have hbx := (keep bx l2).trans h.box
  have q1 : W'.ownsRow M 24 2 v1 r1.length (rowV K.vals r1) := kept_of (World.ownsRow.alloc h.o1 o) hg (fun k hk e => own_apart (own_base h.o1) (own_base h.o2) (by decide) k hk e)
  have keep2 : ∀ k, k ≠ bx → (W'.setCell ⟨bx, 1, none⟩ v2').heap[k]? = W'.heap[k]? := fun k hk => Deep.blk_setCell_other W' ⟨bx, 1, none⟩ v2' k hk
  refine ⟨hbx, ⟨?_, hg.os.trans h.os, hg.tape.trans h.tape, hg.output.trans h.output, by rw [World.size_setCell]; omega, fun k hk hne => (keep2 k (by omega)).trans ((keep k (by omega)).trans (h.keep k hk hne)), ?_, ?_, ?_⟩⟩
  · exact h.rdr.stays (by rw [World.size_setCell]; omega) fun k _ hB => by have := L.rdr k hB; exact (keep2 k (by omega)).trans (keep k (by omega))
  · exact box_set hbx 1 v2'
  · refine kept_of q1 (grown_setCell W' bx 1 v2') fun k hk e => ?_
    injection e with e
    subst e
    rcases q1.2 with ⟨rfl, _⟩ | ⟨g, cap, cur, rfl, _, hg', _⟩
    · cases hk
    · injection hk with hk
      subst hk
      rw [hbx] at hg'
      injection hg' with hg'
      injection hg' with _ a2
      exact absurd a2 (by decide)
  · have q2 := own_set_box (u := v2') (j := 1) ho l2
    rw [List.length_append, rowV_append]
    have e : rowV Sp.vals [y] = y.vals := by simp [rowV]
    rw [e]
    exact q2
theorem TSI.drew (h : TSI W1 W B V M bx v1 v2 r1 r2 bs bad) : TSI W1 W.drew B V M bx v1 v2 r1 r2 bs bad :=
  ⟨h.rdr.stays (Nat.le_refl _) (fun _ _ _ => rfl), h.os, h.tape, h.output, h.size, h.keep, h.box, h.o1, h.o2⟩
theorem TSI.cells (h : TSI W1 W B V M bx v1 v2 r1 r2 bs bad) : W.cell? ⟨bx, 0, none⟩ = some v1 ∧ W.cell? ⟨bx, 1, none⟩ = some v2 ∧ ∀ o, W.frozen? ⟨bx, o, none⟩ = false :=
  ⟨(cell_of_row W _ 0 _ 30 (0, 0) h.box).trans rfl, (cell_of_row W _ 1 _ 30 (0, 0) h.box).trans rfl, fun o => frozen_box h.box o⟩
end
theorem results25 (w : World) (g : Nat) (x : FV) (v : Value) (h : FBox w g x) (tmps : Array Value) (h2 : tmps.getD 2 undef = .pointer (some ⟨g, 0, none⟩)) (h3 : tmps.getD 3 undef = v) :
    (results Try.f25 tmps).run Try.prog w = .ok (.tuple #[x.val, v]) w := by
  have h2' : tmps[2]?.getD undef = .pointer (some ⟨g, 0, none⟩) := by simpa using h2
  have h3' : tmps[3]?.getD undef = v := by simpa using h3
  have c0 := h.c0
  have c1 := h.c1
  have c2 := h.c2
  have e : Try.f25.results = #[.cell 2 30, .tmp 3] := Try.results25
  have hl : (loadVar 30 ⟨g, 0, none⟩).run Try.prog w = .ok x.val w := by unfold FV.val FV.cs; simp [go_sem, c0, c1, c2]
  simp only [results, e]
  simp [asAddr, h2', hl, h3']
theorem loop_all {α : Type} {R : List Nat → α × List Nat × Bool} {P : α → Prop} (hP : ∀ bs, (∀ b ∈ bs, b < 256) → P (R bs).1) (hr : ∀ bs, (∀ b ∈ bs, b < 256) → ∀ b ∈ (R bs).2.1, b < 256) (m : Nat) : ∀ (bs : List Nat) (bad : Bool), (∀ b ∈ bs, b < 256) → ∀ x ∈ (loopR R m bs bad).1, P x := by
  induction m with
  | zero => intro bs bad _ x hx; cases hx
  | succ m ih =>
    intro bs bad hs x hx
    simp only [loopR] at hx
    rcases List.mem_cons.1 hx with rfl | hx
    · exact hP bs hs
    · exact ih _ _ (hr bs hs) x hx
theorem listS_fitS {bs : List Nat} (hs : ∀ b ∈ bs, b < 256) : ∀ x ∈ (listP sR bs).1, FitS x :=
  loop_all (R := sR) (fun bs hs => by
    have h1 := (fold_unfold (rcount_lt _ (rcount_rest hs))).2
    have h2 := (fold_unfold (rcount_lt _ (rcount_rest (rcount_rest hs)))).2
    exact ⟨h1.1, h1.2, h2.1, h2.2⟩) (fun _ h => rcount_rest (rcount_rest (rcount_rest h))) _ _ _ (rcount_rest hs)
theorem loopK_len (m : Nat) : ∀ (bs : List Nat) (bad : Bool), (∀ b ∈ bs, b < 256) → (loopR kR m bs bad).2.1.length ≤ bs.length := by
  induction m with
  | zero => intro bs bad _; exact Nat.le_refl _
  | succ m ih =>
    intro bs bad hs
    simp only [loopR]
    have h1 := rcount_len bs hs
    have h2 := rcount_len _ (rcount_rest hs)
    exact Nat.le_trans (ih _ _ (rcount_rest (rcount_rest hs))) (Nat.le_trans h2 h1)
theorem loopS_len (m : Nat) : ∀ (bs : List Nat) (bad : Bool), (∀ b ∈ bs, b < 256) → (loopR sR m bs bad).2.1.length ≤ bs.length := by
  induction m with
  | zero => intro bs bad _; exact Nat.le_refl _
  | succ m ih =>
    intro bs bad hs
    simp only [loopR]
    have h1 := rcount_len bs hs
    have h2 := rcount_len _ (rcount_rest hs)
    have h3 := rcount_len _ (rcount_rest (rcount_rest hs))
    exact Nat.le_trans (ih _ _ (rcount_rest (rcount_rest (rcount_rest hs)))) (Nat.le_trans h3 (Nat.le_trans h2 h1))
theorem listK_len {bs : List Nat} (hs : ∀ b ∈ bs, b < 256) : (listP kR bs).2.1.length ≤ bs.length ∧ (listP kR bs).1.length ≤ bs.length + 1 := by
  have h1 := rcount_len bs hs
  refine ⟨Nat.le_trans (loopK_len _ _ _ (rcount_rest hs)) h1, ?_⟩
  unfold listP
  rw [loop_length]
  have := rowsN_le bs
  omega
theorem listS_len {bs : List Nat} (hs : ∀ b ∈ bs, b < 256) : (listP sR bs).2.1.length ≤ bs.length ∧ (listP sR bs).1.length ≤ bs.length + 1 := by
  have h1 := rcount_len bs hs
  refine ⟨Nat.le_trans (loopS_len _ _ _ (rcount_rest hs)) h1, ?_⟩
  unfold listP
  rw [loop_length]
  have := rowsN_le bs
  omega
end Go.Proofs.Ytmicheheibkmjaa

/- foot.Take: its end. -/
namespace Go.Proofs.Ytmicheheibkmjaa
set_option maxRecDepth 100000
open Go.RowKit Go.Shelf

/-- A foot in a box, of rows of its own, beside the answer's box. -/
structure FN (w W : World) (bx : Nat) (v1 v2 v3 : Value) (r1 : List K) (r2 : List Sp) (r3 : List K) : Prop where
  below : Below w.heap.size w W
  ret : W.heap[w.heap.size]? = some (.cells #[nilS, nilS, nilS] 30 (0, 0))
  box : W.heap[bx]? = some (.cells #[v1, v2, v3] 30 (0, 0))
  o1 : W.ownsRow (w.heap.size + 1) 24 2 v1 r1.length (rowV K.vals r1)
  o2 : W.ownsRow (w.heap.size + 1) 54 3 v2 r2.length (rowV Sp.vals r2)
  o3 : W.ownsRow (w.heap.size + 1) 24 2 v3 r3.length (rowV K.vals r3)
  fit : ∀ s ∈ r2, FitS s
theorem own_mono {w : World} {B B' e size n : Nat} {v : Value} {xs : List Value} (h : w.ownsRow B e size v n xs) (hb : B' ≤ B) : w.ownsRow B' e size v n xs := by
  refine ⟨h.1, ?_⟩
  rcases h.2 with h0 | ⟨g, cap, cur, e1, h1, h2⟩
  · exact .inl h0
  · exact .inr ⟨g, cap, cur, e1, Nat.le_trans hb h1, h2⟩
theorem own_small {w : World} {B e size n m c : Nat} {A : Option Addr} {xs : List Value} (h : w.ownsRow B e size (.slice A m c) n xs) : m ≤ 9223372036854775807 := by
  rcases h.2 with ⟨h1, h2⟩ | ⟨g, cap, cur, h1, _, _, hv, hw, _⟩
  · injection h1 with _ a2; omega
  · injection h1 with _ a2; unfold maxLen at hw; omega
section
variable {w W W' : World} {bx : Nat} {v1 v2 v3 : Value} {r1 r3 : List K} {r2 : List Sp}
theorem FN.later (h : FN w W bx v1 v2 v3 r1 r2 r3) (hb : Below W.heap.size W W') : FN w W' bx v1 v2 v3 r1 r2 r3 :=
  ⟨h.below.trans (hb.mono h.below.size), (hb.block _ (Array.getElem?_eq_some_iff.1 h.ret).1).trans h.ret, (hb.block _ (Array.getElem?_eq_some_iff.1 h.box).1).trans h.box, ownv_below h.o1 hb, ownv_below h.o2 hb, ownv_below h.o3 hb, h.fit⟩
theorem FN.r (h : FN w W bx v1 v2 v3 r1 r2 r3) : W.cell? ⟨w.heap.size, 0, none⟩ = some (.slice none 0 0) ∧ W.cell? ⟨w.heap.size, 1, none⟩ = some (.slice none 0 0) ∧ W.cell? ⟨w.heap.size, 2, none⟩ = some (.slice none 0 0) :=
  ⟨(cell_of_row W _ 0 _ 30 (0, 0) h.ret).trans rfl, (cell_of_row W _ 1 _ 30 (0, 0) h.ret).trans rfl, (cell_of_row W _ 2 _ 30 (0, 0) h.ret).trans rfl⟩
theorem FN.c (h : FN w W bx v1 v2 v3 r1 r2 r3) : W.cell? ⟨bx, 0, none⟩ = some v1 ∧ W.cell? ⟨bx, 1, none⟩ = some v2 ∧ W.cell? ⟨bx, 2, none⟩ = some v3 :=
  ⟨(cell_of_row W _ 0 _ 30 (0, 0) h.box).trans rfl, (cell_of_row W _ 1 _ 30 (0, 0) h.box).trans rfl, (cell_of_row W _ 2 _ 30 (0, 0) h.box).trans rfl⟩
theorem ft_of {W : World} {B1 B2 B3 : Nat} {A1 A2 A3 : Option Addr} {m1 m2 m3 c1 c2 c3 : Nat} (o1 : W.ownsRow B1 24 2 (.slice A1 m1 c1) r1.length (rowV K.vals r1)) (o2 : W.ownsRow B2 54 3 (.slice A2 m2 c2) r2.length (rowV Sp.vals r2)) (o3 : W.ownsRow B3 24 2 (.slice A3 m3 c3) r3.length (rowV K.vals r3)) (hf : ∀ s ∈ r2, FitS s) :
    FtG W ⟨A1, m1, c1, A2, m2, c2, A3, m3, c3⟩ ⟨r1, r2, r3⟩ := by
  have s1 := own_small o1
  have s2 := own_small o2
  have s3 := own_small o3
  have e1 := own_len o1
  have e2 := own_len o2
  have e3 := own_len o3
  rw [e1] at o1
  rw [e2] at o2
  rw [e3] at o3
  obtain ⟨a1, a2⟩ := row_of o1 e1
  obtain ⟨b1, b2⟩ := row_of o2 e2
  obtain ⟨d1, d2⟩ := row_of o3 e3
  exact ⟨⟨a1, b1, d1, s1, s2, s3⟩, a2, b2, d2, hf⟩
theorem FN.foot {A1 A2 A3 : Option Addr} {m1 m2 m3 c1 c2 c3 : Nat} (h : FN w W bx (.slice A1 m1 c1) (.slice A2 m2 c2) (.slice A3 m3 c3) r1 r2 r3) : FtG W ⟨A1, m1, c1, A2, m2, c2, A3, m3, c3⟩ ⟨r1, r2, r3⟩ := ft_of h.o1 h.o2 h.o3 h.fit
/-- The answer stored. -/
theorem FN.store (h : FN w W bx v1 v2 v3 r1 r2 r3) (u1 u2 u3 : Value) :
    (((W.setCell ⟨w.heap.size, 0, none⟩ u1).setCell ⟨w.heap.size, 1, none⟩ u2).setCell ⟨w.heap.size, 2, none⟩ u3).heap[w.heap.size]? = some (.cells #[u1, u2, u3] 30 (0, 0)) ∧
    Below w.heap.size w (((W.setCell ⟨w.heap.size, 0, none⟩ u1).setCell ⟨w.heap.size, 1, none⟩ u2).setCell ⟨w.heap.size, 2, none⟩ u3) := by
  refine ⟨?_, ?_⟩
  · rw [box_set (box_set (box_set h.ret 0 u1) 1 u2) 2 u3]
    rfl
  · exact below_grown2 (grown_trans (grown_trans (grown_trans (r := some w.heap.size) ⟨h.below.os, h.below.tape, h.below.output, h.below.size, fun k hk _ => h.below.block k hk⟩ (grown_setCell W _ _ _)) (grown_setCell _ _ _ _)) (grown_setCell _ _ _ _)) (Nat.le_refl _) (Nat.le_refl _)
theorem FN.done {A1 A2 A3 : Option Addr} {m1 m2 m3 c1 c2 c3 : Nat} (h : FN w W bx (.slice A1 m1 c1) (.slice A2 m2 c2) (.slice A3 m3 c3) r1 r2 r3) (u1 u2 u3 : Value) :
    FtG (((W.setCell ⟨w.heap.size, 0, none⟩ u1).setCell ⟨w.heap.size, 1, none⟩ u2).setCell ⟨w.heap.size, 2, none⟩ u3) ⟨A1, m1, c1, A2, m2, c2, A3, m3, c3⟩ ⟨r1, r2, r3⟩ := by
  have key : ∀ {e size n : Nat} {v : Value} {xs : List Value}, W.ownsRow (w.heap.size + 1) e size v n xs → (((W.setCell ⟨w.heap.size, 0, none⟩ u1).setCell ⟨w.heap.size, 1, none⟩ u2).setCell ⟨w.heap.size, 2, none⟩ u3).ownsRow (w.heap.size + 1) e size v n xs := fun h =>
    own_set_box (j := 2) (u := u3) (own_set_box (j := 1) (u := u2) (own_set_box (j := 0) (u := u1) h (b := w.heap.size) (by omega)) (b := w.heap.size) (by omega)) (b := w.heap.size) (by omega)
  exact ft_of (key h.o1) (key h.o2) (key h.o3) h.fit
end
/-- The last keys stored. -/
theorem FN.make {w W1 W W' : World} {B : Nat → Prop} {V v1 v2 v3 : Value} {M bx : Nat} {r1 r3 : List K} {r2 : List Sp} {bs bs' : List Nat} {bad bad' : Bool} (h : TSI W1 W B V M bx v1 v2 r1 r2 bs bad) (L : Lay W1 B M bx) (h3 : TKI W W' B V v3 r3 bs' bad')
    (hB : ∀ k, B k → w.heap.size < k) (hS : w.heap.size < M) (hw : Below w.heap.size w W1) (hret : W1.heap[w.heap.size]? = some (.cells #[.slice none 0 0, .slice none 0 0, .slice none 0 0] 30 (0, 0))) (fit : ∀ s ∈ r2, FitS s) :
    W'.cell? ⟨bx, 2, none⟩ = some (.slice none 0 0) ∧ W'.frozen? ⟨bx, 2, none⟩ = false ∧ FN w (W'.setCell ⟨bx, 2, none⟩ v3) bx v1 v2 v3 r1 r2 r3 ∧ Rdr (W'.setCell ⟨bx, 2, none⟩ v3) B V bs' bad' := by
  have h5 := h.step L h3.rdr h3.only
  have l1 := L.box
  have l2 := L.low
  have hV : ∀ k, V = .pointer (some ⟨k, 0, none⟩) → B k := fun k e => h.rdr.low' k e
  have hsz := h.size
  have keep2 : ∀ k, k ≠ bx → (W'.setCell ⟨bx, 2, none⟩ v3).heap[k]? = W'.heap[k]? := fun k hk => Deep.blk_setCell_other W' ⟨bx, 2, none⟩ v3 k hk
  have hne : V ≠ .pointer (some ⟨w.heap.size, 0, none⟩) := fun e => by have := hB _ (hV _ e); omega
  refine ⟨(cell_of_row W' bx 2 _ 30 (0, 0) h5.box).trans rfl, frozen_box h5.box 2, ⟨⟨h5.os.trans hw.os, h5.tape.trans hw.tape, h5.output.trans hw.output, by rw [World.size_setCell]; exact Nat.le_trans hw.size h5.size, fun k hk => ?_⟩, ?_, ?_, ?_, ?_, ?_, fit⟩, ?_⟩
  · exact (keep2 k (by omega)).trans ((h5.keep k (by omega) (fun e => by have := hB _ (hV _ e); omega)).trans (hw.block k hk))
  · exact (keep2 _ (by omega)).trans ((h5.keep _ hS hne).trans hret)
  · rw [box_set h5.box 2 v3]; rfl
  · have q := h5.o1
    refine own_mono (B := M) (kept_of q (grown_setCell W' bx 2 v3) fun k hk e => ?_) hS
    injection e with e
    subst e
    rcases q.2 with ⟨rfl, _⟩ | ⟨g, cap, cur, rfl, _, hg', _⟩
    · cases hk
    · injection hk with hk
      subst hk
      rw [h5.box] at hg'
      injection hg' with hg'
      injection hg' with _ a2
      exact absurd a2 (by decide)
  · exact own_mono (own_set_box (j := 2) (u := v3) h5.o2 l2) (by omega)
  · exact own_mono (own_set_box (j := 2) (u := v3) h3.own (b := bx) (by omega)) (by omega)
  · exact h5.rdr.stays (by rw [World.size_setCell]; exact Nat.le_refl _) fun k _ hk => keep2 k (by have := L.rdr k hk; omega)
end Go.Proofs.Ytmicheheibkmjaa
