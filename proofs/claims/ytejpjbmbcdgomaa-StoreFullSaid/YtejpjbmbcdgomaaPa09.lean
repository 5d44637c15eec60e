/- TNd: put together. -/
import Derived.Test.YtejpjbmbcdgomaaPa08
/- A node in memory by itself. -/
namespace Go.Proofs.Ytejpjbmbcdgomaa
set_option maxRecDepth 100000
open Go.RowKit

/-- A node: its block, its two slices, its items, where those below it lie. -/
structure Nd where
  p : Nat
  v : Value
  u : Value
  is : List Ix
  ps : List Nat
/-- Its blocks. -/
def Nd.B (n : Nd) (k : Nat) : Prop := k = n.p ∨ n.v.ownBlock = some k ∨ n.u.ownBlock = some k
structure NdM (w : World) (n : Nd) : Prop where
  block : w.heap[n.p]? = some (.cells #[n.v, n.u] 155 (0, 0))
  own : w.ownsRow 0 166 4 n.v n.is.length (rowV Ix.vals n.is)
  kids : w.ownsRow 0 151 1 n.u n.ps.length (rowV PV n.ps)
theorem own_same {w w' : World} {B e size n : Nat} {v : Value} {xs : List Value} (h : w.ownsRow B e size v n xs) (hk : ∀ q, v.ownBlock = some q → w'.heap[q]? = w.heap[q]?) : w'.ownsRow B e size v n xs := by
  refine ⟨h.1, ?_⟩
  rcases h.2 with h0 | ⟨g, cap, cur, rfl, h1, h2, h3⟩
  · exact .inl h0
  · exact .inr ⟨g, cap, cur, rfl, h1, (hk g rfl).trans h2, h3⟩
theorem own_at {w : World} {B e size n : Nat} {v : Value} {xs : List Value} (h : w.ownsRow B e size v n xs) {q : Nat} (hq : v.ownBlock = some q) : ∃ cur, w.heap[q]? = some (.cells cur e (0, 0)) := by
  rcases h.2 with ⟨rfl, _⟩ | ⟨g, cap, cur, rfl, h1, h2, h3⟩
  · cases hq
  · have e : g = q := by simpa [Value.ownBlock] using hq
    subst e
    exact ⟨cur, h2⟩
section
variable {w w' : World} {n : Nd}
theorem NdM.keep (h : NdM w n) (hk : ∀ k, n.B k → w'.heap[k]? = w.heap[k]?) : NdM w' n :=
  ⟨(hk _ (.inl rfl)).trans h.block, own_same h.own fun q e => hk q (.inr (.inl e)), own_same h.kids fun q e => hk q (.inr (.inr e))⟩
theorem NdM.lt (h : NdM w n) {k : Nat} (hk : n.B k) : k < w.heap.size := by
  rcases hk with rfl | hk | hk
  · exact (Array.getElem?_eq_some_iff.1 h.block).1
  · obtain ⟨_, e⟩ := own_at h.own hk
    exact (Array.getElem?_eq_some_iff.1 e).1
  · obtain ⟨_, e⟩ := own_at h.kids hk
    exact (Array.getElem?_eq_some_iff.1 e).1
theorem NdM.below (h : NdM w n) (hb : Below w.heap.size w w') : NdM w' n := h.keep fun _ hk => hb.block _ (h.lt hk)
theorem NdM.vp (h : NdM w n) : n.v.ownBlock ≠ some n.p := fun e => by
  obtain ⟨cur, e2⟩ := own_at h.own e
  rw [h.block] at e2
  injection e2 with e2
  injection e2 with _ e3
  exact absurd e3 (by decide)
theorem NdM.up (h : NdM w n) : n.u.ownBlock ≠ some n.p := fun e => by
  obtain ⟨cur, e2⟩ := own_at h.kids e
  rw [h.block] at e2
  injection e2 with e2
  injection e2 with _ e3
  exact absurd e3 (by decide)
theorem NdM.vu (h : NdM w n) {k : Nat} (hv : n.v.ownBlock = some k) : n.u.ownBlock ≠ some k := fun e => by
  obtain ⟨_, e1⟩ := own_at h.own hv
  obtain ⟨_, e2⟩ := own_at h.kids e
  rw [e1] at e2
  injection e2 with e2
  injection e2 with _ e3
  exact absurd e3 (by decide)
theorem NdM.c0 (h : NdM w n) : w.cell? ⟨n.p, 0, none⟩ = some n.v := (cell_of_row w _ 0 _ _ (0, 0) h.block).trans rfl
theorem NdM.c1 (h : NdM w n) : w.cell? ⟨n.p, 1, none⟩ = some n.u := (cell_of_row w _ 1 _ _ (0, 0) h.block).trans rfl
theorem NdM.fr (h : NdM w n) (j : Nat) : w.frozen? ⟨n.p, j, none⟩ = false := frozen_of h.block j
/-- Its items' slice. -/
theorem NdM.items (h : NdM w n) : ∃ A c, n.v = .slice A n.is.length c ∧ Ixs w A n.is ∧ (A = none → c = 0) ∧ n.is.length ≤ c := by
  obtain ⟨A, c, e, hr, hn, hl⟩ := rdv_own h.own
  exact ⟨A, c, e, ⟨rfl, hr⟩, hn, hl⟩
theorem NdM.item (h : NdM w n) {j : Nat} (hj : j < n.is.length) : ∃ g c, n.v = .slice (some ⟨g, 0, none⟩) n.is.length c ∧ n.is.length ≤ c ∧ (∀ o, w.frozen? ⟨g, o, none⟩ = false) ∧
    w.cell? ⟨g, j * 4, none⟩ = some (.int .i64 n.is[j].c.v) ∧ w.cell? ⟨g, j * 4 + 1, none⟩ = some (.int .i64 n.is[j].c.s) ∧ w.cell? ⟨g, j * 4 + 2, none⟩ = some (.bool n.is[j].c.dead) ∧ w.cell? ⟨g, j * 4 + 3, none⟩ = some (.int .i64 n.is[j].k) := by
  rcases h.own.2 with ⟨_, h0⟩ | ⟨g, c, cur, e, _, hb, hle, _⟩
  · omega
  · have ho := h.own
    rw [e] at ho
    have key : ∀ (i : Nat) (u : Value), i < 4 → (n.is[j].vals)[i]? = some u → w.cell? ⟨g, j * 4 + i, none⟩ = some u := fun i u hi hu => own_cell ho _ u ((rowV_get Ix.vals 4 Ix.vlen n.is j hj i hi).trans hu)
    exact ⟨g, c, e, hle, frozen_of hb, key 0 _ (by omega) rfl, key 1 _ (by omega) rfl, key 2 _ (by omega) rfl, key 3 _ (by omega) rfl⟩
/-- Where one below it lies. -/
theorem NdM.kid (h : NdM w n) {j : Nat} (hj : j < n.ps.length) : ∃ g c, n.u = .slice (some ⟨g, 0, none⟩) n.ps.length c ∧ n.ps.length ≤ c ∧ w.cell? ⟨g, j, none⟩ = some (.pointer (some ⟨n.ps[j], 0, none⟩)) := by
  rcases h.kids.2 with ⟨_, h0⟩ | ⟨g, c, cur, e, _, hb, hle, _⟩
  · omega
  · have ho := h.kids
    rw [e] at ho
    refine ⟨g, c, e, hle, ?_⟩
    have := own_cell ho _ _ ((rowV_get PV 1 PV.len n.ps j hj 0 (by omega)).trans rfl)
    simpa using this
end
set_option maxHeartbeats 1000000 in
theorem leaf_any {w : World} {n : Nd} (h : NdM w n) : Calls Try.prog 109 #[.pointer (some ⟨n.p, 0, none⟩)] w fun e w' => e = .returned (.bool ((n.ps.length : Int) == 0)) ∧ w = w' := by
  have c1 := h.c1
  obtain ⟨A, c, e, _, _, _⟩ := rdv_own h.kids
  rw [e] at c1
  obtain ⟨p, hp⟩ : ∃ p, p = n.p := ⟨_, rfl⟩
  obtain ⟨m, hm⟩ : ∃ m, m = n.ps.length := ⟨_, rfl⟩
  rw [← hp, ← hm] at c1
  rw [← hp, ← hm]
  clear h e hp hm
  go_enter Try.func109, Try.ntmps109
  go_wp2_with fail
  go_ret
  exact ⟨rfl, rfl⟩
set_option maxHeartbeats 1000000 in
theorem find_any {w : World} {n : Nd} (h : NdM w n) (hu : Up n.is) (hl : n.is.length ≤ 1000) (k : Int) : Calls Try.prog 108 #[.pointer (some ⟨n.p, 0, none⟩), .int .i64 k] w fun e w' => e = .returned (.tuple #[.int .i64 (place n.is k : Int), .bool (foundB n.is k)]) ∧ Below w.heap.size w w' := by
  have c0 := h.c0
  obtain ⟨A, c, e, hr, _, _⟩ := h.items
  rw [e] at c0
  have HS := Lib.hid (search_any A c n.is k w hr (by omega) hu)
  obtain ⟨p, hp⟩ : ∃ p, p = n.p := ⟨_, rfl⟩
  obtain ⟨q, hq⟩ : ∃ q, q = place n.is k := ⟨_, rfl⟩
  obtain ⟨b, hb⟩ : ∃ b, b = foundB n.is k := ⟨_, rfl⟩
  obtain ⟨m, hm⟩ : ∃ m, m = n.is.length := ⟨_, rfl⟩
  rw [← hp, ← hm] at c0
  rw [← hq, ← hb, ← hm] at HS
  rw [← hp, ← hq, ← hb]
  clear h e hp hq hb hm hr hu hl
  go_enter Try.func108, Try.ntmps108
  go_wp2_with fail
  refine Calls.mono HS.out ?_
  rintro e w1 ⟨rfl, b1⟩
  go_wp2_with fail
  go_ret2
  exact ⟨rfl, b1⟩
end Go.Proofs.Ytejpjbmbcdgomaa
