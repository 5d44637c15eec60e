/- TMt: put together. -/
import Derived.Test.YtejpjbmbcdgomaaPa23
/- A whole tree changed: its nodes, its own block, the result's cells. -/
namespace Go.Proofs.Ytejpjbmbcdgomaa
set_option maxRecDepth 100000
open Go.RowKit

theorem ins_len {α : Type} {l : List (It α)} (h : Up l) (x : It α) : (ins x l).length = l.length + (if (getC x.k l).isSome then 0 else 1) := by
  obtain ⟨a, b, hl, _, h1, h2⟩ := place_cut h x.k
  rcases h2 with ⟨y, b', rfl, hy, h3⟩ | ⟨_, h4⟩
  · subst hl
    rw [ins_at x y a b' hy h1 h3, getC_at y a b' x.k hy (fun z hz => by have := h1 z hz; omega)]
    simp
  · subst hl
    rw [ins_new x a b h1 h4, getC_none x.k _ (fun z hz => by
      rcases List.mem_append.1 hz with e | e
      · have := h1 z e; omega
      · have := h4 z e; omega)]
    simp; omega
theorem del_len {α : Type} {l : List (It α)} (h : Up l) (k : Int) : (del k l).length + (if (getC k l).isSome then 1 else 0) = l.length := by
  obtain ⟨a, b, hl, _, h1, h2⟩ := place_cut h k
  rcases h2 with ⟨y, b', rfl, hy, h3⟩ | ⟨_, h4⟩
  · subst hl
    rw [del_at k y a b' hy (fun z hz => by have := h1 z hz; omega) (fun z hz => by have := h3 z hz; omega), getC_at y a b' k hy (fun z hz => by have := h1 z hz; omega)]
    simp; omega
  · subst hl
    have hn : ∀ z ∈ a ++ b, z.k ≠ k := fun z hz => by
      rcases List.mem_append.1 hz with e | e
      · have := h1 z e; omega
      · have := h4 z e; omega
    rw [del_none k _ hn, getC_none k _ hn]
    simp
/-- What is changed, and whose the new blocks are. -/
structure Cg (w w' : World) (F F' : Nat → Prop) : Prop where
  ch : Ch w w' F
  fr : ∀ k, F' k → F k ∨ w.heap.size ≤ k
structure Mt (w0 wx : World) (l l' : List Nd) (tb k r p : Nat) (many : Int) (y : Cl) : Prop where
  all : All wx l'
  ch : Ch w0 wx (fun q => BL l q ∨ q = tb)
  fr : ∀ q, BL l' q → BL l q ∨ w0.heap.size ≤ q
  tree : wx.heap[tb]? = some (.cells #[.pointer (some ⟨p, 0, none⟩), .int .i64 many] 157 (0, 0))
  was : wx.heap[k]? = some (.cells #[.int .i64 y.v, .int .i64 y.s, .bool y.dead] 44 (0, 0))
  res : wx.heap[r]? = some (.cells #[.int .i64 0, .int .i64 0, .bool false] 44 (0, 0))
  a0 : ¬ BL l' tb
  a1 : ¬ BL l' k
  a2 : ¬ BL l' r
  k0 : w0.heap.size ≤ k
  r0 : w0.heap.size ≤ r
  t0 : tb < w0.heap.size
section
variable {w0 w w1 w2 : World} {l l' l1 l2 : List Nd} {tb k r p : Nat} {many : Int} {y : Cl}
theorem Mt.step (M : Mt w0 w1 l l1 tb k r p many y) (T : Mv w1 w2 l1 l2) : Mt w0 w2 l l2 tb k r p many y := by
  have h1 := (Array.getElem?_eq_some_iff.1 M.was).1
  have h2 := (Array.getElem?_eq_some_iff.1 M.res).1
  have h3 := (Array.getElem?_eq_some_iff.1 M.tree).1
  have hs := M.ch.size
  refine ⟨T.all, M.ch.trans T.ch (fun q e => (M.fr q e).imp .inl id), fun q e => ?_, (T.ch.block _ h3 M.a0).trans M.tree, (T.ch.block _ h1 M.a1).trans M.was, (T.ch.block _ h2 M.a2).trans M.res, fun e => ?_, fun e => ?_, fun e => ?_, M.k0, M.r0, M.t0⟩
  · rcases T.fr q e with e | e
    · exact M.fr q e
    · exact .inr (Nat.le_trans hs e)
  · exact (T.fr _ e).elim M.a0 (fun e => by omega)
  · exact (T.fr _ e).elim M.a1 (fun e => by omega)
  · exact (T.fr _ e).elim M.a2 (fun e => by omega)
/-- The tree's own block is written. -/
theorem Mt.store (M : Mt w0 w1 l l1 tb k r p many y) (A : At w1 w2 tb) {p' : Nat} {many' : Int} (hb : w2.heap[tb]? = some (.cells #[.pointer (some ⟨p', 0, none⟩), .int .i64 many'] 157 (0, 0))) : Mt w0 w2 l l1 tb k r p' many' y := by
  have ht := M.t0
  have hk := M.k0
  have hr := M.r0
  refine ⟨⟨fun n hn => (M.all.m n hn).keep fun q hq => A.block q (fun e => M.a0 (by rw [← e]; exact ⟨n, hn, hq⟩)), M.all.ap⟩, M.ch.trans (⟨A.os, A.tape, A.output, by rw [A.size]; exact Nat.le_refl _, fun q _ hq => A.block q hq⟩ : Ch w1 w2 (fun q => q = tb)) (fun q e => .inl (.inr e)), M.fr, hb, (A.block _ (by omega)).trans M.was, (A.block _ (by omega)).trans M.res, M.a0, M.a1, M.a2, M.k0, M.r0, M.t0⟩
theorem Mt.sub (M : Mt w0 w1 l l1 tb k r p many y) (hs : l2.Sublist l1) : Mt w0 w1 l l2 tb k r p many y :=
  ⟨M.all.sub hs, M.ch, fun q e => M.fr q (BL.sub hs e), M.tree, M.was, M.res, fun e => M.a0 (BL.sub hs e), fun e => M.a1 (BL.sub hs e), fun e => M.a2 (BL.sub hs e), M.k0, M.r0, M.t0⟩
theorem Mt.below (M : Mt w0 w1 l l1 tb k r p many y) (hb : Below w1.heap.size w1 w2) : Mt w0 w2 l l1 tb k r p many y := M.step (Mv.below M.all hb)
theorem Md.mt (M : Md w0 w1 l l1 k r y) (_ : All w0 l) (ht : ¬ BL l tb) (hb : w0.heap[tb]? = some (.cells #[.pointer (some ⟨p, 0, none⟩), .int .i64 many] 157 (0, 0))) (hk : w0.heap.size ≤ k) (hr : w0.heap.size ≤ r) : Mt w0 w1 l l1 tb k r p many y := by
  have h3 := (Array.getElem?_eq_some_iff.1 hb).1
  exact ⟨M.mv.all, M.mv.ch.mono fun _ e => .inl e, M.mv.fr, (M.mv.ch.block _ h3 ht).trans hb, M.was, M.res, fun e => (M.mv.fr _ e).elim ht (fun e => by omega), M.a1, M.a2, hk, hr, h3⟩
/-- The result's cell is written: the tree stands. -/
theorem Mt.done (M : Mt w0 w1 l l1 tb k r p many y) (A : At w1 w2 r) {T : Top Cl} {m : MT T.d} (ok : TOk T) (tr : trOf T.d m = T.t) (lk : Lk T.d m) (hn : nodes T.d m = l1) (hp : (root T.d m).p = p) (hm : (T.items.length : Int) = many) {F : Nat → Prop} (hF : ∀ q, F q ↔ BL l q ∨ q = tb) :
    ∃ F', TL w2 F' tb T.items T.d ∧ Cg w0 w2 F F' := by
  have ht := M.t0
  have hr := M.r0
  subst hn hp hm
  refine ⟨fun q => BL (nodes T.d m) q ∨ q = tb, ⟨T, m, rfl, rfl, ok, tr, lk, ⟨fun n hn => (M.all.m n hn).keep fun q hq => A.block q (fun e => M.a2 (by rw [← e]; exact ⟨n, hn, hq⟩)), M.all.ap⟩, (A.block _ (by omega)).trans M.tree, M.a0, fun q => Iff.rfl⟩, ?_, fun q e => ?_⟩
  · exact (M.ch.trans (⟨A.os, A.tape, A.output, by rw [A.size]; exact Nat.le_refl _, fun q _ hq => A.block q hq⟩ : Ch w1 w2 (fun q => q = r)) (fun q e => .inr (by subst e; exact hr))).mono fun q e => (hF q).2 e
  · rcases e with e | e
    · exact (M.fr q e).imp (fun e => (hF q).2 (.inl e)) id
    · exact .inl ((hF q).2 (.inr e))
end
set_option maxHeartbeats 4000000 in
theorem new_any (w : World) : Calls Try.prog 47 #[] w fun e w' => ∃ F tb, e = .returned (.pointer (some ⟨tb, 0, none⟩)) ∧ TL w' F tb [] 0 ∧ (∀ k, F k → w.heap.size ≤ k) ∧ Below w.heap.size w w' := by
  obtain ⟨W, hW⟩ : ∃ W, W = (w.alloc (.cells #[.slice none 0 0, .slice none 0 0] 155)).alloc (.cells #[.pointer (some ⟨w.heap.size, 0, none⟩), .int .i64 0] 157) := ⟨_, rfl⟩
  have hb : Below w.heap.size w W := by rw [hW]; exact ((Below.refl _ _).alloc (Nat.le_refl _) _).alloc (by simp) _
  have h1 : W.heap[w.heap.size]? = some (.cells #[.slice none 0 0, .slice none 0 0] 155 (0, 0)) := by
    rw [hW, ((Below.refl _ (w.alloc _)).alloc (Nat.le_refl _) _).block _ (by simp)]
    exact heap_alloc_new w _
  have h2 : W.heap[w.heap.size + 1]? = some (.cells #[.pointer (some ⟨w.heap.size, 0, none⟩), .int .i64 0] 157 (0, 0)) := by
    have := heap_alloc_new (w.alloc (.cells #[.slice none 0 0, .slice none 0 0] 155)) (.cells #[.pointer (some ⟨w.heap.size, 0, none⟩), .int .i64 0] 157)
    have e : (w.alloc (.cells #[.slice none 0 0, .slice none 0 0] 155)).heap.size = w.heap.size + 1 := by simp
    rw [e, ← hW] at this
    exact this
  have HN : Hid (NdM W ⟨w.heap.size, .slice none 0 0, .slice none 0 0, [], []⟩) := Lib.hid ⟨h1, World.ownsRow_nil _ _ _ _, World.ownsRow_nil _ _ _ _⟩
  have H2 := Lib.hid h2
  have HB := Lib.hid hb
  have HW := Lib.hid hW
  clear h1 h2 hb hW
  go_enter Try.func47, Try.ntmps47
  go_wp2_with fail
  go_ret
  rw [← HW.out]
  have hB : ∀ k, Nd.B ⟨w.heap.size, .slice none 0 0, .slice none 0 0, [], []⟩ k → k = w.heap.size := fun k hk => by
    rcases hk with e | e | e
    · exact e
    · cases e
    · cases e
  refine ⟨fun q => BL [⟨w.heap.size, .slice none 0 0, .slice none 0 0, [], []⟩] q ∨ q = w.heap.size + 1, w.heap.size + 1, rfl, ⟨Top.new, (⟨w.heap.size, .slice none 0 0, .slice none 0 0, [], []⟩ : Nd), rfl, rfl, TOk.new, rfl, rfl, one_all' HN.out, H2.out, fun ⟨n, hn, e⟩ => ?_, fun q => Iff.rfl⟩, fun k hk => ?_, HB.out⟩
  · rw [List.mem_singleton.1 hn] at e
    have := hB _ e
    omega
  · rcases hk with ⟨n, hn, e⟩ | e
    · rw [List.mem_singleton.1 hn] at e
      have := hB _ e
      omega
    · omega
end Go.Proofs.Ytejpjbmbcdgomaa
