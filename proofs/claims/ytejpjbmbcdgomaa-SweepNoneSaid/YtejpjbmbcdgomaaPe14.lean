/- TMt, TCopy, TWalk, TWalkR: put together. -/
import Derived.Test.YtejpjbmbcdgomaaPe13
/- A whole tree changed: its nodes, its own block, the result's cells. -/
namespace Go.Proofs.Ytejpjbmbcdgomaa
set_option maxRecDepth 100000
open Go.RowKit

theorem ins_len {α : Type} {l : List (It α)} (h : Up l) (x : It α) : (ins x l).length = l.length + (if (getC x.k l).isSome then 0 else 1) := by
  obtain ⟨a, b, hl, _, h1, h2⟩ := place_cut h x.k
  rcases h2 with ⟨y, b', rfl, hy, h3⟩ | ⟨_, h4⟩
  · subst hl
    rw [ins_at x y a b' hy h1 h3, getC_at y a b' x.k hy (fun z hz => by have := h1 z hz; omega)]
    simp
  · subst hl
    rw [ins_new x a b h1 h4, getC_none x.k _ (fun z hz => by
      rcases List.mem_append.1 hz with e | e
      · have := h1 z e; omega
      · have := h4 z e; omega)]
    simp; omega
theorem del_len {α : Type} {l : List (It α)} (h : Up l) (k : Int) : (del k l).length + (if (getC k l).isSome then 1 else 0) = l.length := by
  obtain ⟨a, b, hl, _, h1, h2⟩ := place_cut h k
  rcases h2 with ⟨y, b', rfl, hy, h3⟩ | ⟨_, h4⟩
  · subst hl
    rw [del_at k y a b' hy (fun z hz => by have := h1 z hz; omega) (fun z hz => by have := h3 z hz; omega), getC_at y a b' k hy (fun z hz => by have := h1 z hz; omega)]
    simp; omega
  · subst hl
    have hn : ∀ z ∈ a ++ b, z.k ≠ k := fun z hz => by
      rcases List.mem_append.1 hz with e | e
      · have := h1 z e; omega
      · have := h4 z e; omega
    rw [del_none k _ hn, getC_none k _ hn]
    simp
/-- What is changed, and whose the new blocks are. -/
structure Cg (w w' : World) (F F' : Nat → Prop) : Prop where
  ch : Ch w w' F
  fr : ∀ k, F' k → F k ∨ w.heap.size ≤ k
structure Mt (w0 wx : World) (l l' : List Nd) (tb k r p : Nat) (many : Int) (y : Cl) : Prop where
  all : All wx l'
  ch : Ch w0 wx (fun q => BL l q ∨ q = tb)
  fr : ∀ q, BL l' q → BL l q ∨ w0.heap.size ≤ q
  tree : wx.heap[tb]? = some (.cells #[.pointer (some ⟨p, 0, none⟩), .int .i64 many] 157 (0, 0))
  was : wx.heap[k]? = some (.cells #[.int .i64 y.v, .int .i64 y.s, .bool y.dead] 44 (0, 0))
  res : wx.heap[r]? = some (.cells #[.int .i64 0, .int .i64 0, .bool false] 44 (0, 0))
  a0 : ¬ BL l' tb
  a1 : ¬ BL l' k
  a2 : ¬ BL l' r
  k0 : w0.heap.size ≤ k
  r0 : w0.heap.size ≤ r
  t0 : tb < w0.heap.size
section
variable {w0 w w1 w2 : World} {l l' l1 l2 : List Nd} {tb k r p : Nat} {many : Int} {y : Cl}
theorem Mt.step (M : Mt w0 w1 l l1 tb k r p many y) (T : Mv w1 w2 l1 l2) : Mt w0 w2 l l2 tb k r p many y := by
  have h1 := (Array.getElem?_eq_some_iff.1 M.was).1
  have h2 := (Array.getElem?_eq_some_iff.1 M.res).1
  have h3 := (Array.getElem?_eq_some_iff.1 M.tree).1
  have hs := M.ch.size
  refine ⟨T.all, M.ch.trans T.ch (fun q e => (M.fr q e).imp .inl id), fun q e => ?_, (T.ch.block _ h3 M.a0).trans M.tree, (T.ch.block _ h1 M.a1).trans M.was, (T.ch.block _ h2 M.a2).trans M.res, fun e => ?_, fun e => ?_, fun e => ?_, M.k0, M.r0, M.t0⟩
  · rcases T.fr q e with e | e
    · exact M.fr q e
    · exact .inr (Nat.le_trans hs e)
  · exact (T.fr _ e).elim M.a0 (fun e => by omega)
  · exact (T.fr _ e).elim M.a1 (fun e => by omega)
  · exact (T.fr _ e).elim M.a2 (fun e => by omega)
/-- The tree's own block is written. -/
theorem Mt.store (M : Mt w0 w1 l l1 tb k r p many y) (A : At w1 w2 tb) {p' : Nat} {many' : Int} (hb : w2.heap[tb]? = some (.cells #[.pointer (some ⟨p', 0, none⟩), .int .i64 many'] 157 (0, 0))) : Mt w0 w2 l l1 tb k r p' many' y := by
  have ht := M.t0
  have hk := M.k0
  have hr := M.r0
  refine ⟨⟨fun n hn => (M.all.m n hn).keep fun q hq => A.block q (fun e => M.a0 (by rw [← e]; exact ⟨n, hn, hq⟩)), M.all.ap⟩, M.ch.trans (⟨A.os, A.tape, A.output, by rw [A.size]; exact Nat.le_refl _, fun q _ hq => A.block q hq⟩ : Ch w1 w2 (fun q => q = tb)) (fun q e => .inl (.inr e)), M.fr, hb, (A.block _ (by omega)).trans M.was, (A.block _ (by omega)).trans M.res, M.a0, M.a1, M.a2, M.k0, M.r0, M.t0⟩
theorem Mt.sub (M : Mt w0 w1 l l1 tb k r p many y) (hs : l2.Sublist l1) : Mt w0 w1 l l2 tb k r p many y :=
  ⟨M.all.sub hs, M.ch, fun q e => M.fr q (BL.sub hs e), M.tree, M.was, M.res, fun e => M.a0 (BL.sub hs e), fun e => M.a1 (BL.sub hs e), fun e => M.a2 (BL.sub hs e), M.k0, M.r0, M.t0⟩
theorem Mt.below (M : Mt w0 w1 l l1 tb k r p many y) (hb : Below w1.heap.size w1 w2) : Mt w0 w2 l l1 tb k r p many y := M.step (Mv.below M.all hb)
theorem Md.mt (M : Md w0 w1 l l1 k r y) (_ : All w0 l) (ht : ¬ BL l tb) (hb : w0.heap[tb]? = some (.cells #[.pointer (some ⟨p, 0, none⟩), .int .i64 many] 157 (0, 0))) (hk : w0.heap.size ≤ k) (hr : w0.heap.size ≤ r) : Mt w0 w1 l l1 tb k r p many y := by
  have h3 := (Array.getElem?_eq_some_iff.1 hb).1
  exact ⟨M.mv.all, M.mv.ch.mono fun _ e => .inl e, M.mv.fr, (M.mv.ch.block _ h3 ht).trans hb, M.was, M.res, fun e => (M.mv.fr _ e).elim ht (fun e => by omega), M.a1, M.a2, hk, hr, h3⟩
/-- The result's cell is written: the tree stands. -/
theorem Mt.done (M : Mt w0 w1 l l1 tb k r p many y) (A : At w1 w2 r) {T : Top Cl} {m : MT T.d} (ok : TOk T) (tr : trOf T.d m = T.t) (lk : Lk T.d m) (hn : nodes T.d m = l1) (hp : (root T.d m).p = p) (hm : (T.items.length : Int) = many) {F : Nat → Prop} (hF : ∀ q, F q ↔ BL l q ∨ q = tb) :
    ∃ F', TL w2 F' tb T.items T.d ∧ Cg w0 w2 F F' := by
  have ht := M.t0
  have hr := M.r0
  subst hn hp hm
  refine ⟨fun q => BL (nodes T.d m) q ∨ q = tb, ⟨T, m, rfl, rfl, ok, tr, lk, ⟨fun n hn => (M.all.m n hn).keep fun q hq => A.block q (fun e => M.a2 (by rw [← e]; exact ⟨n, hn, hq⟩)), M.all.ap⟩, (A.block _ (by omega)).trans M.tree, M.a0, fun q => Iff.rfl⟩, ?_, fun q e => ?_⟩
  · exact (M.ch.trans (⟨A.os, A.tape, A.output, by rw [A.size]; exact Nat.le_refl _, fun q _ hq => A.block q hq⟩ : Ch w1 w2 (fun q => q = r)) (fun q e => .inr (by subst e; exact hr))).mono fun q e => (hF q).2 e
  · rcases e with e | e
    · exact (M.fr q e).imp (fun e => (hF q).2 (.inl e)) id
    · exact .inl ((hF q).2 (.inr e))
end
set_option maxHeartbeats 4000000 in
theorem new_any (w : World) : Calls Try.prog 47 #[] w fun e w' => ∃ F tb, e = .returned (.pointer (some ⟨tb, 0, none⟩)) ∧ TL w' F tb [] 0 ∧ (∀ k, F k → w.heap.size ≤ k) ∧ Below w.heap.size w w' := by
  obtain ⟨W, hW⟩ : ∃ W, W = (w.alloc (.cells #[.slice none 0 0, .slice none 0 0] 155)).alloc (.cells #[.pointer (some ⟨w.heap.size, 0, none⟩), .int .i64 0] 157) := ⟨_, rfl⟩
  have hb : Below w.heap.size w W := by rw [hW]; exact ((Below.refl _ _).alloc (Nat.le_refl _) _).alloc (by simp) _
  have h1 : W.heap[w.heap.size]? = some (.cells #[.slice none 0 0, .slice none 0 0] 155 (0, 0)) := by
    rw [hW, ((Below.refl _ (w.alloc _)).alloc (Nat.le_refl _) _).block _ (by simp)]
    exact heap_alloc_new w _
  have h2 : W.heap[w.heap.size + 1]? = some (.cells #[.pointer (some ⟨w.heap.size, 0, none⟩), .int .i64 0] 157 (0, 0)) := by
    have := heap_alloc_new (w.alloc (.cells #[.slice none 0 0, .slice none 0 0] 155)) (.cells #[.pointer (some ⟨w.heap.size, 0, none⟩), .int .i64 0] 157)
    have e : (w.alloc (.cells #[.slice none 0 0, .slice none 0 0] 155)).heap.size = w.heap.size + 1 := by simp
    rw [e, ← hW] at this
    exact this
  have HN : Hid (NdM W ⟨w.heap.size, .slice none 0 0, .slice none 0 0, [], []⟩) := Lib.hid ⟨h1, World.ownsRow_nil _ _ _ _, World.ownsRow_nil _ _ _ _⟩
  have H2 := Lib.hid h2
  have HB := Lib.hid hb
  have HW := Lib.hid hW
  clear h1 h2 hb hW
  go_enter Try.func47, Try.ntmps47
  go_wp2_with fail
  go_ret
  rw [← HW.out]
  have hB : ∀ k, Nd.B ⟨w.heap.size, .slice none 0 0, .slice none 0 0, [], []⟩ k → k = w.heap.size := fun k hk => by
    rcases hk with e | e | e
    · exact e
    · cases e
    · cases e
  refine ⟨fun q => BL [⟨w.heap.size, .slice none 0 0, .slice none 0 0, [], []⟩] q ∨ q = w.heap.size + 1, w.heap.size + 1, rfl, ⟨Top.new, (⟨w.heap.size, .slice none 0 0, .slice none 0 0, [], []⟩ : Nd), rfl, rfl, TOk.new, rfl, rfl, one_all' HN.out, H2.out, fun ⟨n, hn, e⟩ => ?_, fun q => Iff.rfl⟩, fun k hk => ?_, HB.out⟩
  · rw [List.mem_singleton.1 hn] at e
    have := hB _ e
    omega
  · rcases hk with ⟨n, hn, e⟩ | e
    · rw [List.mem_singleton.1 hn] at e
      have := hB _ e
      omega
    · omega
end Go.Proofs.Ytejpjbmbcdgomaa

/- A copy of a node's tree. -/
namespace Go.Proofs.Ytejpjbmbcdgomaa
set_option maxRecDepth 100000
open Go.RowKit

/-- A tree of new blocks alone. -/
def NewT (d : Nat) (B : Nat) (w w' : World) (t : Tr Cl d) (m' : MT d) : Prop := trOf d m' = t ∧ Lk d m' ∧ All w' (nodes d m') ∧ (∀ k, BL (nodes d m') k → B ≤ k) ∧ Below B w w'
theorem NewT.undrew {d : Nat} {w w' : World} {t : Tr Cl d} {m' : MT d} (h : NewT d w.drew.heap.size w.drew w' t m') : NewT d w.heap.size w w' t m' := ⟨h.1, h.2.1, h.2.2.1, h.2.2.2.1, (Below.refl _ w).drew.trans h.2.2.2.2⟩
/-- Those copied so far, below a new node. -/
structure Cop {d : Nat} (w wr : World) (n : Nd) (cs : List (MT d)) (ts : List (Tr Cl d)) : Prop where
  all : All wr (n :: cs.flatMap (nodes d))
  ps : n.ps = cs.map (pOf d)
  lk : ∀ z ∈ cs, Lk d z
  tr : cs.map (trOf d) = ts
  new : ∀ k, BL (n :: cs.flatMap (nodes d)) k → w.heap.size ≤ k
  b : Below w.heap.size w wr
section
variable {w wr w8 w9 : World} {d : Nat} {n n2 : Nd} {cs : List (MT d)} {ts : List (Tr Cl d)} {m' : MT d} {t : Tr Cl d}
/-- One copied more, not yet below the new node. -/
structure Cop1 {d : Nat} (w wr : World) (n : Nd) (cs : List (MT d)) (m' : MT d) : Prop where
  all : All wr (n :: (cs ++ [m']).flatMap (nodes d))
  ps : n.ps = cs.map (pOf d)
  lk : ∀ z ∈ cs ++ [m'], Lk d z
  new : ∀ k, BL (n :: (cs ++ [m']).flatMap (nodes d)) k → w.heap.size ≤ k
  b : Below w.heap.size w wr
theorem Cop.add (C : Cop w wr n cs ts) (h : NewT d wr.heap.size wr w8 t m') : Cop1 w w8 n cs m' := by
  obtain ⟨h1, h2, h3, h4, h5⟩ := h
  have e : n :: (cs ++ [m']).flatMap (nodes d) = (n :: cs.flatMap (nodes d)) ++ nodes d m' := by simp
  have hs := C.b.size
  refine ⟨?_, C.ps, fun z hz => ?_, fun k hk => ?_, C.b.trans (h5.mono hs)⟩
  · rw [e]
    refine ⟨fun x hx => ?_, List.pairwise_append.2 ⟨C.all.ap, h3.ap, fun a ha b hb k e1 e2 => ?_⟩⟩
    · rcases List.mem_append.1 hx with e | e
      · exact (C.all.m x e).below h5
      · exact h3.m x e
    · have := (C.all.m a ha).lt e1
      have := h4 k ⟨b, hb, e2⟩
      omega
  · rcases List.mem_append.1 hz with e | e
    · exact C.lk z e
    · rw [List.mem_singleton.1 e]; exact h2
  · rw [e] at hk
    rcases BL.app.1 hk with e | e
    · exact C.new k e
    · exact Nat.le_trans hs (h4 k e)
theorem Cop1.put (C : Cop1 w w8 n cs m') (h : NdM w9 n2 ∧ Ch w8 w9 n.B ∧ Fr w8 n n2) (hp : n2.ps = n.ps ++ [(root d m').p]) : Cop w w9 n2 (cs ++ [m']) ((cs ++ [m']).map (trOf d)) := by
  have M := Mv.frame (l := [n]) (r := (cs ++ [m']).flatMap (nodes d)) C.all (Mv.one h)
  have hs := C.b.size
  refine ⟨M.all, ?_, C.lk, rfl, fun k hk => ?_, ?_⟩
  · rw [hp, C.ps]; simp [pOf]
  · rcases M.fr k hk with e | e
    · exact C.new k e
    · exact Nat.le_trans hs e
  · exact ⟨M.ch.os.trans C.b.os, M.ch.tape.trans C.b.tape, M.ch.output.trans C.b.output, Nat.le_trans C.b.size M.ch.size, fun k hk => (M.ch.block k (Nat.lt_of_lt_of_le hk hs) (fun e => by have := C.new k e; omega)).trans (C.b.block k hk)⟩
end
set_option maxHeartbeats 8000000 in
theorem copy_node {w : World} {d : Nat} {n : Nd} (h : NdM w n) (hl : n.is.length ≤ 1000) (hlp : n.ps.length ≤ 1000) {cs : List (MT d)} (hps : n.ps = cs.map (pOf d)) (hcs : ∀ w1, Below w.heap.size w w1 → ∀ c ∈ cs, Calls Try.prog 100 #[.pointer (some ⟨(root d c).p, 0, none⟩)] w1 fun e w' => ∃ m', e = .returned (.pointer (some ⟨(root d m').p, 0, none⟩)) ∧ NewT d w1.heap.size w1 w' (trOf d c) m') :
    Calls Try.prog 100 #[.pointer (some ⟨n.p, 0, none⟩)] w fun e w' => ∃ n' cs', e = .returned (.pointer (some ⟨n'.p, 0, none⟩)) ∧ n'.is = n.is ∧ Cop w w' n' cs' (cs.map (trOf d)) := by
  obtain ⟨A, c, ev, hr, hnil, hle⟩ := rdv_own h.own
  have c0 := h.c0
  have c1 := h.c1
  obtain ⟨Au, cu, eu, hru, hnilu, hleu⟩ := rdv_own h.kids
  rw [ev] at c0
  rw [eu] at c1
  have HC := Lib.hid (clone_anyI hr hnil hle (by omega))
  obtain ⟨p, hp⟩ : ∃ p, p = n.p := ⟨_, rfl⟩
  obtain ⟨ni, hni⟩ : ∃ ni, ni = n.is.length := ⟨_, rfl⟩
  obtain ⟨np, hnp⟩ : ∃ np, np = n.ps.length := ⟨_, rfl⟩
  rw [← hp] at c0 c1 ⊢
  rw [← hni] at c0 HC
  rw [← hnp] at c1 hlp
  have H := Lib.hid h
  have HN := Lib.hid (And.intro hni (And.intro hnp hp))
  have HP := Lib.hid hps
  have HCS := Lib.hid hcs
  have HU := Lib.hid eu
  have hcl : cs.length = np := by rw [hnp, hps, List.length_map]
  have HCL := Lib.hid hcl
  clear h ev hr hnil hle eu hru hnilu hleu hp hni hnp hps hcs hcl
  go_enter Try.func100, Try.ntmps100
  go_wp2_with fail
  refine Calls.mono HC.out ?_
  rintro e w1 ⟨v1, rfl, ho1, hb1⟩
  obtain ⟨A1, cc1, rfl⟩ := own_form ho1
  have c1' := (hb1.cell (World.block_lt_of_cell? _ _ c1)).trans c1
  have c2' : ∀ o, (w1.alloc o).cell? ⟨p, 1, none⟩ = some (.slice Au np cu) := fun o => (((Below.refl _ w1).alloc (Nat.le_refl _) o).cell (World.block_lt_of_cell? _ _ c1')).trans c1'
  have HO1 := Lib.hid ho1
  have HB1 := Lib.hid hb1
  clear ho1 hb1 HC c0 c1 c1'
  go_upto_region 2 with fail
  obtain ⟨W, hW⟩ : ∃ W, W = w1.alloc (.cells #[.slice A1 ni cc1, .slice none 0 0] 155) := ⟨_, rfl⟩
  have HW := Lib.hid hW
  have c3 := c2' (.cells #[.slice A1 ni cc1, .slice none 0 0] 155)
  rw [← hW] at c3 ⊢
  obtain ⟨q, hq⟩ : ∃ q, q = w1.heap.size := ⟨_, rfl⟩
  have HQ := Lib.hid hq
  rw [← hq]
  clear hW hq c2'
  go_wp2_with fail
  clear c3
  have hstart : Cop w W ⟨q, .slice A1 ni cc1, .slice none 0 0, n.is, []⟩ ([] : List (MT d)) [] := by
    have hs1 := HB1.out.size
    have ho := HO1.out
    have hge : ∀ k, Nd.B ⟨q, .slice A1 ni cc1, .slice none 0 0, n.is, []⟩ k → w.heap.size ≤ k := fun k hk => by
      rcases hk with hk | hk | hk
      · rw [show k = q from hk, HQ.out]; exact hs1
      · exact own_ge ho hk
      · cases hk
    have hnew : NdM W ⟨q, .slice A1 ni cc1, .slice none 0 0, n.is, []⟩ := by
      refine ⟨?_, ?_, World.ownsRow_nil _ _ _ _⟩
      · show W.heap[q]? = _
        rw [HW.out, HQ.out]
        exact heap_alloc_new w1 _
      · show World.ownsRow _ 0 166 4 (.slice A1 ni cc1) n.is.length _
        rw [← HN.out.1]
        refine own_same (own_zero ho) fun q hq => ?_
        obtain ⟨_, e⟩ := own_at ho hq
        rw [HW.out]
        exact ((Below.refl _ w1).alloc (Nat.le_refl _) _).block q (Array.getElem?_eq_some_iff.1 e).1
    refine ⟨one_all' hnew, rfl, fun z hz => by simp at hz, rfl, fun k e => ?_, by rw [HW.out]; exact HB1.out.alloc hs1 _⟩
    obtain ⟨m, hm, e⟩ := e
    rw [List.mem_singleton.1 hm] at e
    exact hge k e
  have HST := Lib.hid hstart
  clear hstart
  go_loopg [5, 18, 19, 20, 21, 22, 23, 24, 25, 26, 27, 28, 29, 30, 31, 32, 33] np (fun k _ ix _ _ _ _ _ _ _ _ _ _ _ _ _ _ _ wr => ∃ (z : Nat) (n' : Nd) (cs' : List (MT d)), ix = .int .i64 (z : Int) ∧ z + k = np ∧ n'.p = q ∧ n'.is = n.is ∧ Cop w wr n' cs' ((cs.take z).map (trOf d)))
  case atStart => exact ⟨0, ⟨q, .slice A1 ni cc1, .slice none 0 0, n.is, []⟩, [], rfl, by omega, rfl, rfl, HST.out⟩
  case round =>
    obtain ⟨z, n', cs', rfl, hz, hq, his, hC⟩ := hrel
    have HCO := Lib.hid hC
    have HI := Lib.hid (And.intro hq his)
    clear hC hq his
    cases gk with
    | zero =>
      obtain rfl : z = np := by omega
      clear hz
      have HTK := Lib.hid (show cs.take z = cs from List.take_of_length_le (by rw [HCL.out]; exact Nat.le_refl _))
      go_wp2_with fail
      go_ret
      exact ⟨n', cs', by rw [HI.out.1]; rfl, HI.out.2, by have := HCO.out; rw [HTK.out] at this; exact this⟩
    | succ gk =>
      have hlt : z < cs.length := by rw [HCL.out]; omega
      obtain ⟨c, hc⟩ : ∃ c, cs[z]? = some c := ⟨_, List.getElem?_eq_getElem hlt⟩
      have hpz : n.ps[z]? = some (root d c).p := by rw [HP.out, List.getElem?_map, hc]; rfl
      obtain ⟨gu', cu', e1', l1', u5, u1, u2⟩ := (H.out.below HCO.out.b).kd hpz
      have e9 := HU.out
      rw [e1'] at e9
      injection e9 with e9 _ e10
      subst e9 e10
      have HCC := Lib.hid (HCS.out wr.drew (below_drewI HCO.out.b) c (List.mem_of_getElem? hc))
      have hn' := HCO.out.all.m n' (List.mem_cons_self ..)
      have k1 := hn'.c1
      have kf := hn'.fr
      rw [HI.out.1] at k1 kf
      have HZ := Lib.hid (And.intro hz hc)
      have e0 : decide ((z : Int) < (np : Int)) = true := decide_eq_true (by omega)
      have hzl : (z : Int) < (np : Int) := by omega
      have hzl2 : z < np := by omega
      have hq' : q < wr.heap.size := by have := hn'.lt (.inl rfl); rw [HI.out.1] at this; exact this
      have hcl' : cs'.length = z := by have := congrArg List.length HCO.out.tr; simp at this; omega
      have HL' := Lib.hid (show n'.ps.length = z from by rw [HCO.out.ps, List.length_map, hcl'])
      clear hlt hc hpz e1' l1' u5 u1 hn' hz hcl'
      go_upto_region 5 with fail
      go_region_law (first | (go_simp; go_at_call 100; refine Calls.mono HCC.out ?_; rintro e8 w8 ⟨m', rfl, hN8⟩; have HN8 := Lib.hid (NewT.undrew hN8); have k2 : w8.cell? ⟨q, 1, none⟩ = some n'.u := (HN8.out.2.2.2.2.cell hq').trans k1; have g0 : ∀ o, (w8.alloc o).cell? ⟨q, 1, none⟩ = some n'.u := fun o => (((Below.refl _ w8).alloc (Nat.le_refl _) o).cell (World.block_lt_of_cell? _ _ k2)).trans k2; have HMM := Lib.hid (Cop.add HCO.out HN8.out); clear hN8) | (refine step_append_rowg elemPt (by simp [Region.wanted]) (.tmp 26) (.tmp 29) rfl 0 n'.u n'.ps.length (rowV PV n'.ps) (by simp [Act.eval]) ((HMM.out.all.m n' (List.mem_cons_self ..)).below ((Below.refl _ w8).alloc (Nat.le_refl _) _)).kids (some ⟨w8.heap.size, 0, none⟩) 1 1 (PV (root d m').p) (by simp [Act.eval]) (rdv_freshN w8 (root d m').p 151) (pt1 _) (fun h => by cases h) (by rw [HL'.out]; unfold maxLen; omega) (by rw [HL'.out]; omega) (Nat.zero_le _) ?_; intro v' w' ho hg hq; obtain ⟨A9, c9, rfl⟩ := own_form ho; obtain ⟨k8, k9⟩ := (HMM.out.all.m n' (List.mem_cons_self ..)).after1 (grown_alloc hg); rw [HI.out.1] at k8 k9; have HO := Lib.hid ho; have HG := Lib.hid (grown_alloc hg); have HQ2 := Lib.hid hq; clear ho hg hq))
      all_goals
        have HF := Lib.hid (HMM.out.put (NdM.put1 (HMM.out.all.m n' (List.mem_cons_self ..)) HI.out.1 (m := n'.ps.length + 1) (ps := n'.ps ++ [(root d m').p]) (by simp) (by rw [rowV_append]; simpa [rowV] using HO.out) HG.out (fun q e => (HQ2.out q e).imp id fun e => by simp at e; omega)) rfl)
        go_wp2_with fail
        go_roundg gk
        case measure => omega
        case rel =>
          refine ⟨z + 1, n'.put1 (.slice A9 (n'.ps.length + 1) c9) (n'.ps ++ [(root d m').p]), cs' ++ [m'], by go_num, by have := HZ.out.1; omega, HI.out.1, HI.out.2, ?_⟩
          have := HF.out
          rw [List.map_append, HCO.out.tr, List.map_cons, List.map_nil, HN8.out.1] at this
          rw [List.take_add_one, HZ.out.2, List.map_append]
          exact this
theorem copy_any : ∀ (d : Nat) (m : MT d) (w : World), Tu w d m → Calls Try.prog 100 #[.pointer (some ⟨(root d m).p, 0, none⟩)] w fun e w' => ∃ m', e = .returned (.pointer (some ⟨(root d m').p, 0, none⟩)) ∧ NewT d w.heap.size w w' (trOf d m) m'
  | 0, m, w, h => by
    have hp : (root 0 m).ps = [] := h.lk
    refine Calls.mono (copy_node (d := 0) (cs := []) h.top (by have := h.few; omega) (by rw [hp]; simp) hp (fun w1 _ c hc => by simp at hc)) ?_
    rintro e w' ⟨n', cs', rfl, h1, hC⟩
    have hcs : cs' = [] := by
      have := congrArg List.length hC.tr
      simp at this
      exact this
    subst hcs
    exact ⟨n', rfl, h1, hC.ps, hC.all, hC.new, hC.b⟩
  | d + 1, m, w, h => by
    refine Calls.mono (copy_node (d := d) (cs := m.2) h.top (by have := h.few; omega) (by have h1 : (root (d + 1) m).ps.length = _ := h.pslen; have h2 : m.1.is.length ≤ 5 := h.few; omega) h.lk.1 (fun w1 hb c hc => copy_any d c w1 ((h.below hb).kid hc))) ?_
    rintro e w' ⟨n', cs', rfl, h1, hC⟩
    refine ⟨(n', cs'), rfl, ?_, ⟨hC.ps, hC.lk⟩, hC.all, hC.new, hC.b⟩
    show (n'.is, cs'.map (trOf d)) = (m.1.is, m.2.map (trOf d))
    rw [h1, hC.tr]
    rfl
end Go.Proofs.Ytejpjbmbcdgomaa

/- A walk shows a range. -/
namespace Go.Proofs.Ytejpjbmbcdgomaa
set_option maxRecDepth 100000
open Go.RowKit

/-- What is shown goes where. -/
structure Shows (G cb : Nat) (w0 : World) (Q : List Ix → World → Prop) : Prop where
  below : ∀ l w, Q l w → Below w0.heap.size w0 w
  later : ∀ l w w', Q l w → Below w.heap.size w w' → Q l w'
  shows : ∀ l w (x : Ix), Q l w → l.length < 100000 → Calls Try.prog G #[.agg #[.int .i64 x.c.v, .int .i64 x.c.s, .bool x.c.dead, .int .i64 x.k], .pointer (some ⟨cb, 0, none⟩)] w fun e w' => e = .returned (.tuple #[]) ∧ Q (l ++ [x]) w'
section
variable {hi : Int} {l : List Ix} {z : Nat} {x : Ix}
theorem lastL (hi : Int) (h : l.length ≤ z) : (l.drop z).takeWhile (fun y => decide (y.k ≤ hi)) = [] := by rw [List.drop_of_length_le h]; rfl
theorem drop_at {β : Type} {l : List β} {z : Nat} {x : β} (hx : l[z]? = some x) : l.drop z = x :: l.drop (z + 1) := by
  obtain ⟨h, e⟩ := List.getElem?_eq_some_iff.1 hx
  rw [List.drop_eq_getElem_cons h, e]
theorem stopL (hi : Int) (hx : l[z]? = some x) (h : hi < x.k) : (l.drop z).takeWhile (fun y => decide (y.k ≤ hi)) = [] := by
  rw [drop_at hx, List.takeWhile_cons, if_neg (by simp; omega)]
theorem goL (hi : Int) (hx : l[z]? = some x) (h : ¬ hi < x.k) : (l.drop z).takeWhile (fun y => decide (y.k ≤ hi)) = x :: (l.drop (z + 1)).takeWhile (fun y => decide (y.k ≤ hi)) := by
  rw [drop_at hx, List.takeWhile_cons, if_pos (by simp; omega)]
variable {β : Type} {bs : List β} {b : β}
theorem lastK (f : β → List Ix) (hi : Int) (h : l.length ≤ z) (hb : bs[z]? = some b) : walkN f hi (l.drop z) (bs.drop z) = f b := by
  rw [List.drop_of_length_le h, drop_at hb]; rfl
theorem preK (f : β → List Ix) (hi : Int) {l : List Ix} {bs : List β} {b : β} (hb : bs[0]? = some b) : ∃ r, walkN f hi l bs = f b ++ r := by
  cases bs with
  | nil => cases hb
  | cons b' bs =>
    have e : b' = b := by simpa using hb
    subst e
    cases l with
    | nil => exact ⟨[], by simp [walkN]⟩
    | cons x l => exact ⟨_, rfl⟩
theorem stopK (f : β → List Ix) (hi : Int) (hx : l[z]? = some x) (hb : bs[z]? = some b) (h : hi < x.k) : walkN f hi (l.drop z) (bs.drop z) = f b := by
  rw [drop_at hx, drop_at hb, walkN, if_pos h, List.append_nil]
theorem goK (f : β → List Ix) (hi : Int) (hx : l[z]? = some x) (hb : bs[z]? = some b) (h : ¬ hi < x.k) : walkN f hi (l.drop z) (bs.drop z) = f b ++ x :: walkN f hi (l.drop (z + 1)) (bs.drop (z + 1)) := by
  rw [drop_at hx, drop_at hb, walkN, if_neg h]
end
end Go.Proofs.Ytejpjbmbcdgomaa

/- A walk shows a range. -/
namespace Go.Proofs.Ytejpjbmbcdgomaa
set_option maxRecDepth 100000
open Go.RowKit

set_option maxHeartbeats 8000000 in
theorem walk_leaf_r {w0 : World} {cb : Nat} {Q : List Ix → World → Prop} (S : Shows 87 cb w0 Q) {w : World} {m : MT (0)} (h : Tu w0 (0) m) (lo hi : Int) (acc : List Ix) (hq : Q acc w) (hb : acc.length + (walkT lo hi (0) (trOf (0) m)).length ≤ 100000) :
    Calls Try.prog 86 #[.pointer (some ⟨(root 0 m).p, 0, none⟩), .int .i64 lo, .int .i64 hi, .func (.func 87) #[] #[.pointer (some ⟨cb, 0, none⟩)]] w fun e w' => e = .returned (.tuple #[]) ∧ Q (acc ++ walkT lo hi (0) (trOf (0) m)) w' := by
  have hT0 := h.below (S.below _ _ hq)
  have HF := Lib.hid (find_any hT0.top hT0.upis (by have := hT0.few; omega) lo)
  have hpl := place_le (root (0) m).is lo
  obtain ⟨i, hi2⟩ : ∃ i, i = place (root (0) m).is lo := ⟨_, rfl⟩
  obtain ⟨fb, hfb⟩ : ∃ fb, fb = foundB (root (0) m).is lo := ⟨_, rfl⟩
  obtain ⟨n, hn⟩ : ∃ n, n = (root (0) m).is.length := ⟨_, rfl⟩
  obtain ⟨p, hp⟩ : ∃ p, p = (root (0) m).p := ⟨_, rfl⟩
  have hfew := h.few
  rw [← hfb, ← hi2, ← hp] at HF
  rw [← hi2, ← hn] at hpl
  rw [← hn] at hfew
  obtain ⟨RES, hres⟩ : ∃ RES, acc ++ walkT lo hi (0) (trOf (0) m) = RES := ⟨_, rfl⟩
  have hrs : acc ++ ((root 0 m).is.drop i).takeWhile (fun y => decide (y.k ≤ hi)) = RES := by rw [hi2]; exact hres
  rw [hres]
  change Calls Try.prog _ #[.pointer (some ⟨(root (0) m).p, 0, none⟩), _, _, _] _ _
  rw [← hp]
  have HB := Lib.hid (show RES.length ≤ 100000 from by rw [← hres, List.length_append]; exact hb)
  have HRS := Lib.hid hrs
  have H := Lib.hid h
  have HN := Lib.hid (show n = (root (0) m).is.length ∧ (root (0) m).p = p ∧ True from ⟨hn, hp.symm, trivial⟩)
  have HQ0 := Lib.hid hq
  clear h hT0 hi2 hfb hn hp hres hrs hq hb
  go_enter Try.func86, Try.ntmps86
  go_wp2_with fail
  refine Calls.mono HF.out ?_
  rintro e w1 ⟨rfl, hb1⟩
  have HQ1 := Lib.hid (S.later _ _ _ HQ0.out hb1)
  clear hb1 HF HQ0
  go_wp2_with fail
  go_loopg [8, 16, 17, 18, 19, 20, 21, 22, 23, 24, 25, 26, 27, 28, 29, 30, 31, 32, 33, 34, 35, 36, 37, 38, 39, 40, 41, 42, 43, 44, 45, 46, 47, 48, 49, 50, 51, 52, 53, 54, 55, 56, 57, 58, 59, 60, 61, 62, 63, 64, 65, 66] (n - i) (fun k ix _ _ _ _ _ _ _ _ _ _ _ _ _ _ _ _ _ _ _ _ _ _ _ _ _ _ _ _ _ _ _ _ _ _ _ _ _ _ _ _ _ _ _ _ _ _ _ _ _ _ _ wr => ∃ (z : Nat) (acc2 : List Ix), ix = .int .i64 (z : Int) ∧ z + k = n ∧ acc2 ++ ((root 0 m).is.drop z).takeWhile (fun y => decide (y.k ≤ hi)) = RES ∧ Q acc2 wr)
  case atStart => exact ⟨i, acc, rfl, by omega, HRS.out, HQ1.out⟩
  case round =>
    obtain ⟨z, acc2, rfl, hz, he, hq⟩ := hrel
    have HQ := Lib.hid hq
    have HE := Lib.hid he
    have hzn0 : z ≤ n := by omega
    have hz0 : (z : Int) ≤ (n : Int) := by omega
    clear hq he
    have hT := H.out.below (S.below _ _ HQ.out)
    have HLE := Lib.hid (leaf_any hT.top)
    rw [hT.leafb, show decide (0 = 0) = true from rfl] at HLE
    rw [HN.out.2.1] at HLE
    obtain ⟨A0, cc0, e0, _⟩ := hT.top.items
    have c0 := hT.top.c0
    rw [e0] at c0
    rw [HN.out.2.1, ← HN.out.1] at c0
    clear e0 hT
    go_wp2_with fail
    refine Calls.mono HLE.out ?_
    rintro e w3 ⟨rfl, rfl⟩
    clear HLE c0
    have hT := H.out.below (S.below _ _ HQ.out)

    by_cases hzn : z = n
    · subst hzn
      obtain ⟨A0, cc0, e0, _⟩ := hT.top.items
      have c0 := hT.top.c0
      rw [e0] at c0
      rw [HN.out.2.1, ← HN.out.1] at c0
      clear e0 hT
      go_wp2_with fail
      refine bodyPost_ret (v := .tuple #[]) (by simp [results, Try.results86, go_sem]) rfl ⟨rfl, ?_⟩
      have h9 := HE.out
      rw [lastL _ (by have := HN.out.1; omega), List.append_nil] at h9
      rw [← h9]
      exact HQ.out
    · have hlt : z < (root 0 m).is.length := by have := HN.out.1; omega
      obtain ⟨x, hx⟩ : ∃ x, (root 0 m).is[z]? = some x := ⟨_, List.getElem?_eq_getElem hlt⟩
      obtain ⟨gn, cn, env, f3, hnl, hn0, x0, x1, x2, x3, _⟩ := hT.top.it hx
      rw [HN.out.2.1, ← HN.out.1] at hn0
      have f4 : (z : Int) < (n : Int) := by omega
      have f5 : z < n := by omega
      have e4 : ((z : Int) == (n : Int)) = false := by rw [beq_eq_false_iff_ne]; omega
      have HXX := Lib.hid hx
      clear env f3 hx hT
      by_cases hgt : hi < x.k
      · have d9 : decide (hi < x.k) = true := decide_eq_true hgt
        have HGT := Lib.hid hgt
        clear hgt
        go_wp2_with fail
        refine bodyPost_ret (v := .tuple #[]) (by simp [results, Try.results86, go_sem]) rfl ⟨rfl, ?_⟩
        have h9 := HE.out
        rw [stopL _ HXX.out HGT.out, List.append_nil] at h9
        rw [← h9]
        exact HQ.out
      · have d9 : decide (hi < x.k) = false := decide_eq_false hgt
        have HGT := Lib.hid hgt
        have HSH := Lib.hid (S.shows _ _ x HQ.out (by
          have := HB.out
          rw [← HE.out] at this
          simp only [List.length_append] at this ⊢
          rw [goL _ HXX.out (by have := HGT.out; omega)] at this
          simp only [List.length_cons] at this
          omega))
        clear hgt
        go_wp2_with fail
        refine Calls.mono HSH.out ?_
        rintro e w4 ⟨rfl, hq4⟩
        have HQ4 := Lib.hid hq4
        clear hq4 HSH
        go_wp2_with fail
        go_roundg (gk - 1)
        case measure => omega
        case rel =>
          refine ⟨z + 1, acc2 ++ [x], by go_num, by omega, ?_, HQ4.out⟩
          have h9 := HE.out
          rw [goL _ HXX.out (by have := HGT.out; omega)] at h9
          rw [← h9]
          simp
set_option maxHeartbeats 8000000 in
theorem walk_kids_r {w0 : World} {cb : Nat} {Q : List Ix → World → Prop} (S : Shows 87 cb w0 Q) {w : World} {d : Nat} {m : MT (d + 1)} (h : Tu w0 (d + 1) m) (lo hi : Int) (acc : List Ix) (hq : Q acc w) (hb : acc.length + (walkT lo hi (d + 1) (trOf (d + 1) m)).length ≤ 100000)
    (IH : ∀ c ∈ m.2, ∀ (acc : List Ix) (w : World), Q acc w → acc.length + (walkT lo hi d (trOf d c)).length ≤ 100000 → Calls Try.prog 86 #[.pointer (some ⟨(root d c).p, 0, none⟩), .int .i64 lo, .int .i64 hi, .func (.func 87) #[] #[.pointer (some ⟨cb, 0, none⟩)]] w fun e w' => e = .returned (.tuple #[]) ∧ Q (acc ++ walkT lo hi d (trOf d c)) w') :
    Calls Try.prog 86 #[.pointer (some ⟨m.1.p, 0, none⟩), .int .i64 lo, .int .i64 hi, .func (.func 87) #[] #[.pointer (some ⟨cb, 0, none⟩)]] w fun e w' => e = .returned (.tuple #[]) ∧ Q (acc ++ walkT lo hi (d + 1) (trOf (d + 1) m)) w' := by
  have hT0 := h.below (S.below _ _ hq)
  have HF := Lib.hid (find_any hT0.top hT0.upis (by have := hT0.few; omega) lo)
  have hpl := place_le (root (d + 1) m).is lo
  obtain ⟨i, hi2⟩ : ∃ i, i = place (root (d + 1) m).is lo := ⟨_, rfl⟩
  obtain ⟨fb, hfb⟩ : ∃ fb, fb = foundB (root (d + 1) m).is lo := ⟨_, rfl⟩
  obtain ⟨n, hn⟩ : ∃ n, n = (root (d + 1) m).is.length := ⟨_, rfl⟩
  obtain ⟨p, hp⟩ : ∃ p, p = (root (d + 1) m).p := ⟨_, rfl⟩
  have hfew := h.few
  rw [← hfb, ← hi2, ← hp] at HF
  rw [← hi2, ← hn] at hpl
  rw [← hn] at hfew
  obtain ⟨RES, hres⟩ : ∃ RES, acc ++ walkT lo hi (d + 1) (trOf (d + 1) m) = RES := ⟨_, rfl⟩
  have hrs : acc ++ walkN (walkT lo hi d) hi ((root (d + 1) m).is.drop i) ((m.2.map (trOf d)).drop i) = RES := by rw [hi2]; exact hres
  rw [hres]
  change Calls Try.prog _ #[.pointer (some ⟨(root (d + 1) m).p, 0, none⟩), _, _, _] _ _
  rw [← hp]
  have HB := Lib.hid (show RES.length ≤ 100000 from by rw [← hres, List.length_append]; exact hb)
  have HRS := Lib.hid hrs
  have H := Lib.hid h
  have HN := Lib.hid (show n = (root (d + 1) m).is.length ∧ (root (d + 1) m).p = p ∧ m.2.length = n + 1 from ⟨hn, hp.symm, by rw [h.len, hn]; rfl⟩)
  have HQ0 := Lib.hid hq
  clear h hT0 hi2 hfb hn hp hres hrs hq hb
  go_enter Try.func86, Try.ntmps86
  go_wp2_with fail
  refine Calls.mono HF.out ?_
  rintro e w1 ⟨rfl, hb1⟩
  have HQ1 := Lib.hid (S.later _ _ _ HQ0.out hb1)
  clear hb1 HF HQ0
  go_wp2_with fail
  go_loopg [8, 16, 17, 18, 19, 20, 21, 22, 23, 24, 25, 26, 27, 28, 29, 30, 31, 32, 33, 34, 35, 36, 37, 38, 39, 40, 41, 42, 43, 44, 45, 46, 47, 48, 49, 50, 51, 52, 53, 54, 55, 56, 57, 58, 59, 60, 61, 62, 63, 64, 65, 66] (n - i) (fun k ix _ _ _ _ _ _ _ _ _ _ _ _ _ _ _ _ _ _ _ _ _ _ _ _ _ _ _ _ _ _ _ _ _ _ _ _ _ _ _ _ _ _ _ _ _ _ _ _ _ _ _ wr => ∃ (z : Nat) (acc2 : List Ix), ix = .int .i64 (z : Int) ∧ z + k = n ∧ acc2 ++ walkN (walkT lo hi d) hi ((root (d + 1) m).is.drop z) ((m.2.map (trOf d)).drop z) = RES ∧ Q acc2 wr)
  case atStart => exact ⟨i, acc, rfl, by omega, HRS.out, HQ1.out⟩
  case round =>
    obtain ⟨z, acc2, rfl, hz, he, hq⟩ := hrel
    have HQ := Lib.hid hq
    have HE := Lib.hid he
    have hzn0 : z ≤ n := by omega
    have hz0 : (z : Int) ≤ (n : Int) := by omega
    clear hq he
    have hkc : z < m.2.length := by have := HN.out.2.2; omega
    obtain ⟨c, hc⟩ : ∃ c, m.2[z]? = some c := ⟨_, List.getElem?_eq_getElem hkc⟩
    have hT := H.out.below (S.below _ _ HQ.out)
    obtain ⟨gu', cu', A2', cc2', e1', l1', u1, u2, u3⟩ := (show NodeIn wr m.1 m.2 from hT.node).cell hc
    change wr.cell? ⟨(root (d + 1) m).p, 1, none⟩ = _ at u1
    rw [HN.out.2.1] at u1
    have hcm := List.mem_of_getElem? hc
    have HIC := Lib.hid (IH c hcm _ wr HQ.out (by
      obtain ⟨r, hr⟩ := preK (walkT lo hi d) hi (l := (root (d + 1) m).is.drop z) (bs := (m.2.map (trOf d)).drop z) (b := trOf d c) (by rw [List.getElem?_drop, List.getElem?_map, Nat.add_zero, hc]; rfl)
      have h9 := HE.out
      rw [hr] at h9
      have h10 := HB.out
      rw [← h9] at h10
      simp only [List.length_append] at h10
      omega))
    have HCC := Lib.hid hc
    have HLE := Lib.hid (leaf_any hT.top)
    rw [hT.leafb, show decide (d + 1 = 0) = false from rfl] at HLE
    rw [HN.out.2.1] at HLE
    obtain ⟨A0, cc0, e0, _⟩ := hT.top.items
    have c0 := hT.top.c0
    rw [e0] at c0
    rw [HN.out.2.1, ← HN.out.1] at c0
    clear hkc hc hT e1' u3 hcm e0
    go_wp2_with fail
    refine Calls.mono HLE.out ?_
    rintro e w3 ⟨rfl, rfl⟩
    clear HLE
    go_wp2_with fail
    refine Calls.mono HIC.out ?_
    rintro e w3 ⟨rfl, hq3⟩
    have HQ3 := Lib.hid hq3
    clear hq3 u1 u2 l1' c0 HIC
    have hT := H.out.below (S.below _ _ HQ3.out)

    by_cases hzn : z = n
    · subst hzn
      obtain ⟨A0, cc0, e0, _⟩ := hT.top.items
      have c0 := hT.top.c0
      rw [e0] at c0
      rw [HN.out.2.1, ← HN.out.1] at c0
      clear e0 hT
      go_wp2_with fail
      refine bodyPost_ret (v := .tuple #[]) (by simp [results, Try.results86, go_sem]) rfl ⟨rfl, ?_⟩
      have h9 := HE.out
      rw [lastK _ _ (by have := HN.out.1; exact Nat.le_of_eq this.symm) (by rw [List.getElem?_map, HCC.out]; rfl)] at h9
      rw [← h9]
      exact HQ3.out
    · have hlt : z < (root (d + 1) m).is.length := by have := HN.out.1; omega
      obtain ⟨x, hx⟩ : ∃ x, (root (d + 1) m).is[z]? = some x := ⟨_, List.getElem?_eq_getElem hlt⟩
      obtain ⟨gn, cn, env, f3, hnl, hn0, x0, x1, x2, x3, _⟩ := hT.top.it hx
      rw [HN.out.2.1, ← HN.out.1] at hn0
      have f4 : (z : Int) < (n : Int) := by omega
      have f5 : z < n := by omega
      have e4 : ((z : Int) == (n : Int)) = false := by rw [beq_eq_false_iff_ne]; omega
      have HXX := Lib.hid hx
      clear env f3 hx hT
      by_cases hgt : hi < x.k
      · have d9 : decide (hi < x.k) = true := decide_eq_true hgt
        have HGT := Lib.hid hgt
        clear hgt
        go_wp2_with fail
        refine bodyPost_ret (v := .tuple #[]) (by simp [results, Try.results86, go_sem]) rfl ⟨rfl, ?_⟩
        have h9 := HE.out
        rw [stopK _ _ HXX.out (by rw [List.getElem?_map, HCC.out]; rfl) HGT.out] at h9
        rw [← h9]
        exact HQ3.out
      · have d9 : decide (hi < x.k) = false := decide_eq_false hgt
        have HGT := Lib.hid hgt
        have HSH := Lib.hid (S.shows _ _ x HQ3.out (by
          have := HB.out
          rw [← HE.out] at this
          simp only [List.length_append] at this ⊢
          rw [goK _ _ HXX.out (by rw [List.getElem?_map, HCC.out]; rfl) (by have := HGT.out; omega)] at this
          simp only [List.length_append, List.length_cons] at this
          omega))
        clear hgt
        go_wp2_with fail
        refine Calls.mono HSH.out ?_
        rintro e w4 ⟨rfl, hq4⟩
        have HQ4 := Lib.hid hq4
        clear hq4 HSH
        go_wp2_with fail
        go_roundg (gk - 1)
        case measure => omega
        case rel =>
          refine ⟨z + 1, (acc2 ++ walkT lo hi d (trOf d c)) ++ [x], by go_num, by omega, ?_, HQ4.out⟩
          have h9 := HE.out
          rw [goK _ _ HXX.out (by rw [List.getElem?_map, HCC.out]; rfl) (by have := HGT.out; omega)] at h9
          rw [← h9]
          simp
theorem walk_any_r {cb : Nat} {w0 : World} {Q : List Ix → World → Prop} (S : Shows 87 cb w0 Q) (lo hi : Int) : ∀ (d : Nat) (m : MT d) (acc : List Ix) (w : World), Tu w0 d m → Q acc w → acc.length + (walkT lo hi d (trOf d m)).length ≤ 100000 →
    Calls Try.prog 86 #[.pointer (some ⟨(root d m).p, 0, none⟩), .int .i64 lo, .int .i64 hi, .func (.func 87) #[] #[.pointer (some ⟨cb, 0, none⟩)]] w fun e w' => e = .returned (.tuple #[]) ∧ Q (acc ++ walkT lo hi d (trOf d m)) w'
  | 0, _, acc, _, h, hq, hb => walk_leaf_r S h lo hi acc hq hb
  | d + 1, _, acc, _, h, hq, hb => walk_kids_r S h lo hi acc hq hb fun c hc acc2 w2 hq2 hb2 => walk_any_r S lo hi d c acc2 w2 (h.kid hc) hq2 hb2
end Go.Proofs.Ytejpjbmbcdgomaa
