/- VStep, VIns0: put together. -/
import Derived.Test.YtejpjbmbcdgomaaPt33
/- A sweep's step. Written by gen_vstep.py. -/
namespace Go.Proofs.Ytejpjbmbcdgomaa
set_option maxRecDepth 100000
open Go.RowKit

/-- A sweep's parts between two keys: its block, what it took, its notes, the live entries that are left. -/
structure StI (w wr : World) (B xb sb : Nat) (tv0 : Value) (ct ck : Int) (nA : Option Addr) (nc : Nat) (NS : List Nt) (A9 : Option Addr) (c9 : Nat) (T : List En) (lA : Option Addr) (L : List En) : Prop where
  sw : SwM wr xb (some ⟨sb, 0, none⟩) ct ck (.slice nA NS.length nc) (.slice A9 T.length c9) false
  own : Sno wr B (.slice A9 T.length c9) T
  lo : B ≤ xb
  notes : Nts wr nA NS
  live : Ens wr lA L
  na : 0 < NS.length → ∀ b o, nA = some ⟨b, o, none⟩ → b ≠ xb ∧ (Value.slice A9 T.length c9).ownBlock ≠ some b
  la : 0 < L.length → ∀ b o, lA = some ⟨b, o, none⟩ → b ≠ xb ∧ (Value.slice A9 T.length c9).ownBlock ≠ some b
  ch : Touch w wr xb tv0.ownBlock
  new : ∀ q, (Value.slice A9 T.length c9).ownBlock = some q → tv0.ownBlock = some q ∨ w.heap.size ≤ q
theorem RowAt.same0 {α : Type} {f : α → List Value} {k : Nat} {w w1 : World} {A : Option Addr} {l : List α} (h : RowAt f k w A l.length l) (hk : 0 < l.length → ∀ b o, A = some ⟨b, o, none⟩ → w1.heap[b]? = w.heap[b]?) : RowAt f k w1 A l.length l := by
  rcases Nat.eq_zero_or_pos l.length with h0 | h0
  · exact ⟨rfl, h.2.1, fun hn => absurd hn (by omega)⟩
  · exact ⟨rfl, Rdv.same h.2 (hk h0)⟩
section
variable {w W2 w' : World} {B xb sb : Nat} {tv0 : Value} {ct ck ct' ck' : Int} {nA : Option Addr} {nc : Nat} {NS : List Nt} {A8 : Option Addr} {c8 : Nat} {T8 T' : List En} {lA : Option Addr} {L : List En} {tv' : Value}
theorem StI.below (h : StI w W2 B xb sb tv0 ct ck nA nc NS A8 c8 T8 lA L) (hb : Below W2.heap.size W2 w') : StI w w' B xb sb tv0 ct ck nA nc NS A8 c8 T8 lA L :=
  ⟨SwM.below h.sw hb, own_same h.own fun q hq => by
    obtain ⟨_, e9⟩ := own_at h.own hq
    exact hb.block q (Array.getElem?_eq_some_iff.1 e9).1, h.lo, RowAt.below h.notes hb, RowAt.below h.live hb, h.na, h.la, h.ch.later hb, h.new⟩
/-- A key is gone past. -/
theorem StI.pass (h : StI w W2 B xb sb tv0 ct ck nA nc NS A8 c8 T8 lA L) (hs : SwM w' xb (some ⟨sb, 0, none⟩) ct' ck' (.slice nA NS.length nc) tv' false) (ho : Sno w' B tv' T') (ht : Touch W2 w' xb (Value.slice A8 T8.length c8).ownBlock)
    (hq : ∀ q, tv'.ownBlock = some q → (Value.slice A8 T8.length c8).ownBlock = some q ∨ W2.heap.size ≤ q) : ∃ A9 c9, tv' = .slice A9 T'.length c9 ∧ StI w w' B xb sb tv0 ct' ck' nA nc NS A9 c9 T' lA L := by
  obtain ⟨A9, c9, rfl⟩ := own_form ho
  have key : ∀ b, b < W2.heap.size → b ≠ xb → (Value.slice A8 T8.length c8).ownBlock ≠ some b → (Value.slice A9 T'.length c9).ownBlock ≠ some b := fun b hb _ h2 e => by
    rcases hq b e with e | e
    · exact h2 e
    · omega
  refine ⟨A9, c9, rfl, hs, ho, h.lo, RowAt.same0 h.notes fun hl b o e => ?_, RowAt.same0 h.live fun hl b o e => ?_, fun hl b o e => ?_, fun hl b o e => ?_, ⟨ht.os.trans h.ch.os, ht.tape.trans h.ch.tape, ht.output.trans h.ch.output, Nat.le_trans h.ch.size ht.size, fun k hk h1 h2 => (ht.block k (Nat.lt_of_lt_of_le hk h.ch.size) h1 fun e => ?_).trans (h.ch.block k hk h1 h2)⟩, fun q e => ?_⟩
  · subst e
    exact ht.block b (Rdv.blockLt h.notes.2 hl (by decide)) (h.na hl b o rfl).1 (h.na hl b o rfl).2
  · subst e
    exact ht.block b (Rdv.blockLt h.live.2 hl (by decide)) (h.la hl b o rfl).1 (h.la hl b o rfl).2
  · subst e
    exact ⟨(h.na hl b o rfl).1, key b (Rdv.blockLt h.notes.2 hl (by decide)) (h.na hl b o rfl).1 (h.na hl b o rfl).2⟩
  · subst e
    exact ⟨(h.la hl b o rfl).1, key b (Rdv.blockLt h.live.2 hl (by decide)) (h.la hl b o rfl).1 (h.la hl b o rfl).2⟩
  · rcases h.new k e with e | e
    · exact h2 e
    · omega
  · rcases hq q e with e | e
    · exact h.new q e
    · exact .inr (Nat.le_trans h.ch.size e)
/-- The first live entry is gone. -/
theorem StI.cutL {b off lc : Nat} {y : En} (h : StI w W2 B xb sb tv0 ct ck nA nc NS A8 c8 T8 (some ⟨b, off, none⟩) (y :: L)) (hl : L.length + 1 ≤ lc) : StI w W2 B xb sb tv0 ct ck nA nc NS A8 c8 T8 (if lc = 1 then some ⟨b, off, none⟩ else some ⟨b, off + 5, none⟩) L := by
  by_cases h1 : lc = 1
  · have hL : L = [] := List.eq_nil_of_length_eq_zero (by omega)
    subst hL
    rw [if_pos h1]
    exact ⟨h.sw, h.own, h.lo, h.notes, ⟨rfl, rfl, fun h => absurd h (by decide)⟩, h.na, fun h => absurd h (by decide), h.ch, h.new⟩
  · rw [if_neg h1]
    exact ⟨h.sw, h.own, h.lo, h.notes, RowAt.tail En.vlen h.live, h.na, fun _ b2 o e => by
      have e2 : b = b2 := by
        have e3 := congrArg (fun x : Option Addr => x.map (·.block)) e
        simpa using e3
      exact h.la (by simp) b2 off (by rw [e2]), h.ch, h.new⟩
end
/-- What a step answers. -/
def StepE (w : World) (B xb sb : Nat) (tv0 : Value) (R : List Nt × List En × Int × Int × Bool) (e : Ending) (w' : World) : Prop :=
  e = .returned (.bool R.2.2.2.2) ∧ ∃ (so nA : Option Addr) (nc : Nat) (A9 : Option Addr) (c9 : Nat), SwM w' xb so R.2.2.1 R.2.2.2.1 (.slice nA R.1.length nc) (.slice A9 R.2.1.length c9) R.2.2.2.2 ∧ (R.2.2.2.2 = false → so = some ⟨sb, 0, none⟩) ∧ Sno w' B (.slice A9 R.2.1.length c9) R.2.1 ∧ Nts w' nA R.1 ∧
    (0 < R.1.length → ∀ b o, nA = some ⟨b, o, none⟩ → b ≠ xb ∧ (Value.slice A9 R.2.1.length c9).ownBlock ≠ some b) ∧ Touch w w' xb tv0.ownBlock ∧ (∀ q, (Value.slice A9 R.2.1.length c9).ownBlock = some q → tv0.ownBlock = some q ∨ w.heap.size ≤ q)
end Go.Proofs.Ytejpjbmbcdgomaa

/- sort.Search over nothing; slices.Insert at the end of the notes. -/
namespace Go.Proofs.Ytejpjbmbcdgomaa
set_option maxRecDepth 100000
open Go.RowKit

theorem elemNt : ElemT Try.prog 143 149 6 48 :=
  ⟨Try.underlying143, by kernel_rfl, by
    obtain ⟨i, hi, hz, h1, _⟩ := info_parts (show (Try.prog.info? 149).map (fun i => (i.zero, i.size, i.bytes)) = some (some (.agg #[.int .i64 0, .int .i64 0, .int .i64 0, .int .i64 0, .bool false, .bool false]), 6, 48) by kernel_rfl)
    exact ⟨i, _, hi, hz, rfl⟩, by decide⟩
theorem nt1 (x : Nt) : ∀ u ∈ x.vals, u.oneCell' = true := fun u hu => by
  simp [Nt.vals] at hu
  rcases hu with rfl | rfl | rfl | rfl | rfl | rfl <;> rfl
theorem insert_end {w : World} {B : Nat} {v : Value} {NS : List Nt} {x : Nt} {b c2 : Nat} (ho : w.ownsRow B 149 6 v NS.length (rowV Nt.vals NS)) (hx : Rdv w (some ⟨b, 0, none⟩) 1 6 x.vals) (hl : NS.length ≤ 100000) (hB : B ≤ w.heap.size) :
    Calls Try.prog 105 #[v, .int .i64 (NS.length : Int), .slice (some ⟨b, 0, none⟩) 1 c2] w fun e w' => ∃ v', e = .returned v' ∧ w'.ownsRow B 149 6 v' (NS ++ [x]).length (rowV Nt.vals (NS ++ [x])) ∧ w.grownBy w' v.ownBlock ∧ (∀ q, v'.ownBlock = some q → v.ownBlock = some q ∨ w.heap.size ≤ q) := by
  obtain ⟨A, c, hv, _, hnc, hle⟩ := rdv_own ho
  obtain ⟨n, hn⟩ : ∃ n, n = NS.length := ⟨_, rfl⟩
  rw [← hn] at hv hle ho
  subst hv
  have HO := Lib.hid (And.intro ho (And.intro hx (And.intro hB (And.intro hn hl))))
  have HNN : Hid ((NS ++ [x]).length = n + 1 ∧ rowV Nt.vals (NS ++ [x]) = rowV Nt.vals NS ++ x.vals) := Lib.hid ⟨by simp [hn], by rw [rowV_append]; simp [rowV]⟩
  have er : ((n : Int) == (n : Int)) = true := by simp
  rw [← hn]
  have hn18 : n ≤ 100000 := by rw [hn]; exact hl
  clear ho hx hB hn hl
  go_enter Try.func105, Try.ntmps105
  go_wp2_with (at_builtin; refine wpList_append_rowg elemNt rfl (.tmp 23) (.tmp 24) rfl B (.slice A n c) n (rowV Nt.vals NS) rfl HO.out.1 (some ⟨b, 0, none⟩) 1 c2 x.vals rfl HO.out.2.1 (nt1 _) (fun h => by cases h) (by unfold maxLen; omega) (by omega) HO.out.2.2.1 ?_; intro v' w' ho hg hq; have H9 := Lib.hid (And.intro ho (And.intro hg hq)); clear ho hg hq)
  all_goals
    go_ret
    try rw [show (Value.slice A n n).ownBlock = (Value.slice A n c).ownBlock by cases A <;> rfl]
    exact ⟨_, rfl, by rw [HNN.out.2, ← HO.out.2.2.2.1]; exact H9.out.1, H9.out.2.1, H9.out.2.2⟩
end Go.Proofs.Ytejpjbmbcdgomaa
