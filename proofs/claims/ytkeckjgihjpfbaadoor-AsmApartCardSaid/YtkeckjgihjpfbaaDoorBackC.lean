/- What is read was written: the other way. -/
import Derived.Test.YtkeckjgihjpfbaaDoorBackM
namespace Go.Proofs.YtkeckjgihjpfbaaDoor
set_option maxRecDepth 100000
open Go.RowKit

theorem rcount_ways (bs : List Nat) : rcount bs = (0, [], true) ∨ ∃ x rest, rcount bs = (x, rest, false) := rcnt_ways 10 0 0 bs
theorem rcount_empty : rcount [] = (0, [], true) := rfl
/-- From a bad state on all is bad, and nothing is left. -/
theorem fold_bad (cv : Nat → Int) : ∀ (ls : List Nat) (u : Ins), (ls.foldl (stepG cv) (u, [], true)).2 = ([], true)
  | [], _ => rfl
  | l :: ls, u => by
    rw [List.foldl_cons, show stepG cv (u, [], true) l = (u.set (offL l) (if l = 110 then unfoldN 0 else cv 0), [], true) from rfl]
    exact fold_bad cv ls _
theorem small_rest {bs rest : List Nat} {x : Nat} (hs : ∀ b ∈ bs, b < 256) (h : rcount bs = (x, rest, false)) : ∀ b ∈ rest, b < 256 := by
  have h1 := (rcount_yes hs h).1
  intro b hb
  exact hs b (by rw [h1]; exact List.mem_append_right _ hb)
/-- What was read letter by letter is what the letters' bytes are. -/
theorem fold_yes : ∀ (ls : List Nat) (u r : Ins) (bs rest : List Nat), (∀ b ∈ bs, b < 256) → (ls.map offL).Nodup → ls.foldl stepL (u, bs, false) = (r, rest, false) →
    (∀ l ∈ ls, l ≠ 110 → 0 ≤ r.get (offL l)) → (∀ l ∈ ls, l = 110 → offL l = 5) → encLs r ls ++ rest = bs ∧ (∀ k, 1 ≤ k ∧ k ≤ 5 → k ∉ ls.map offL → r.get k = u.get k) ∧ r.op = u.op
  | [], u, r, bs, rest, _, _, h, _, _ => by
    simp only [List.foldl_nil, Prod.mk.injEq] at h
    obtain ⟨rfl, rfl, _⟩ := h
    exact ⟨rfl, fun _ _ _ => rfl, rfl⟩
  | l :: ls, u, r, bs, rest, hs, hnd, h, h0, h5 => by
    rw [List.foldl_cons] at h
    rw [List.map_cons, List.nodup_cons] at hnd
    rcases rcount_ways bs with hb | ⟨x, bs', hb⟩
    · have e : stepL (u, bs, false) l = (u.set (offL l) (if l = 110 then unfoldN 0 else wrapI 0), [], true) := by unfold stepL; rw [hb]
      rw [e] at h
      have h2 := fold_bad wrapI ls (u.set (offL l) (if l = 110 then unfoldN 0 else wrapI 0))
      have h3 : (ls.foldl stepL (u.set (offL l) (if l = 110 then unfoldN 0 else wrapI 0), [], true)).2 = ([], true) := h2
      rw [h] at h3
      simp at h3
    · have e : stepL (u, bs, false) l = (u.set (offL l) (if l = 110 then unfoldN x else wrapI x), bs', false) := by unfold stepL; rw [hb]
      rw [e] at h
      have hs' := small_rest hs hb
      obtain ⟨h1, h2, h3⟩ := fold_yes ls _ r bs' rest hs' hnd.2 h (fun q hq => h0 q (List.mem_cons_of_mem _ hq)) (fun q hq => h5 q (List.mem_cons_of_mem _ hq))
      obtain ⟨hbs, hx⟩ := rcount_yes hs hb
      have hol := offL_le l
      have hg : r.get (offL l) = (if l = 110 then unfoldN x else wrapI x) := by
        rw [h2 _ hol hnd.1, get_set _ _ _ hol]
      have hel : encL r l = cntN x := by
        unfold encL
        by_cases h110 : l = 110
        · rw [if_pos h110]
          rw [if_pos h110, h5 l (List.mem_cons_self ..) h110] at hg
          have hg' : r.n = unfoldN x := hg
          rw [hg']
          congr 1
          unfold foldN unfoldN
          split <;> split <;> omega
        · rw [if_neg h110, hg, if_neg h110]
          have hnn := h0 l (List.mem_cons_self ..) h110
          rw [hg, if_neg h110] at hnn
          congr 1
          unfold wrapI at hnn ⊢
          rw [IntKind.wrap_i64] at hnn ⊢
          omega
      refine ⟨?_, fun k hk hnk => ?_, ?_⟩
      · rw [show encLs r (l :: ls) = encL r l ++ encLs r ls from rfl, List.append_assoc, h1, hel, hbs]
      · rw [List.map_cons, List.mem_cons, not_or] at hnk
        rw [h2 k hk hnk.2, get_set_ne _ _ _ _ hol hk hnk.1]
      · rw [h3, set_op]
theorem fold_op : ∀ (ls : List Nat) (s : Ins × List Nat × Bool), (ls.foldl stepL s).1.op = s.1.op
  | [], _ => rfl
  | l :: ls, s => by
    rw [List.foldl_cons, fold_op ls]
    exact set_op _ _ _
theorem shapeL_nodup (op : Int) : ((shapeL op).map offL).Nodup := by
  unfold shapeL
  repeat' split
  all_goals decide
theorem offL_n (l : Nat) (h : l = 110) : offL l = 5 := by subst h; rfl
theorem take_yes {bs rest : List Nat} {x : Ins} (hs : ∀ b ∈ bs, b < 256) (h : takeI bs false = (x, rest, false)) (h0 : ∀ l ∈ shapeL x.op, l ≠ 110 → 0 ≤ x.get (offL l)) : encI x ++ rest = bs := by
  unfold takeI startI at h
  rcases bs with _ | ⟨b, t⟩
  · have h2 := fold_bad wrapI (shapeL ((byteT [] : Nat) : Int)) { Ins.zero with op := ((byteT [] : Nat) : Int) }
    have h3 : ((shapeL ((byteT [] : Nat) : Int)).foldl stepL ({ Ins.zero with op := ((byteT [] : Nat) : Int) }, ([] : List Nat).drop 1, false || decide (([] : List Nat).length = 0))).2 = ([], true) := h2
    rw [h] at h3
    simp at h3
  · have e : (false || decide ((b :: t).length = 0)) = false := by simp
    rw [e] at h
    have hop : x.op = (b : Int) := by
      · have := fold_op (shapeL ((byteT (b :: t) : Nat) : Int)) ({ Ins.zero with op := ((byteT (b :: t) : Nat) : Int) }, (b :: t).drop 1, false)
        rw [h] at this
        exact this
    have h1 := fold_yes (shapeL ((byteT (b :: t) : Nat) : Int)) _ x ((b :: t).drop 1) rest (fun q hq => hs q (List.mem_cons_of_mem _ hq)) (shapeL_nodup _) h (by rw [show ((byteT (b :: t) : Nat) : Int) = x.op from hop.symm]; exact h0) (fun l _ => offL_n l)
    have h2 : encLs x (shapeL (b : Int)) ++ rest = t := h1.1
    unfold encI
    rw [hop, Int.toNat_natCast, List.cons_append, h2]
theorem takeN_bad (k : Nat) : (takeN k [] true).2 = ([], true) := by
  induction k with
  | zero => rfl
  | succ k ih =>
    rw [takeN]
    simp only []
    rw [ih]
    exact fold_bad wrapI _ _
theorem takeI_bad (_ : List Nat) : (takeI [] true).2 = ([], true) := fold_bad wrapI _ _
theorem fold_ways : ∀ (ls : List Nat) (u : Ins) (bs : List Nat), (∃ r, ls.foldl stepL (u, bs, false) = (r, [], true)) ∨ ∃ r rest, ls.foldl stepL (u, bs, false) = (r, rest, false)
  | [], u, bs => .inr ⟨u, bs, rfl⟩
  | l :: ls, u, bs => by
    rw [List.foldl_cons]
    rcases rcount_ways bs with hb | ⟨x, bs', hb⟩
    · have e : stepL (u, bs, false) l = (u.set (offL l) (if l = 110 then unfoldN 0 else wrapI 0), [], true) := by unfold stepL; rw [hb]
      rw [e]
      exact .inl ⟨_, Prod.ext rfl (fold_bad wrapI ls _)⟩
    · have e : stepL (u, bs, false) l = (u.set (offL l) (if l = 110 then unfoldN x else wrapI x), bs', false) := by unfold stepL; rw [hb]
      rw [e]
      exact fold_ways ls _ bs'
theorem take_ways (bs : List Nat) : (∃ r, takeI bs false = (r, [], true)) ∨ ∃ r rest, takeI bs false = (r, rest, false) := by
  rcases bs with _ | ⟨b, t⟩
  · exact .inl ⟨_, Prod.ext rfl (fold_bad wrapI _ _)⟩
  · exact fold_ways _ _ _
theorem takeN_ways (k : Nat) (bs : List Nat) : (∃ r, takeN k bs false = (r, [], true)) ∨ ∃ r rest, takeN k bs false = (r, rest, false) := by
  induction k with
  | zero => exact .inr ⟨[], bs, rfl⟩
  | succ k ih =>
    rw [takeN]
    rcases ih with ⟨r, h⟩ | ⟨r, rest, h⟩
    · rw [h]
      exact .inl ⟨_, Prod.ext rfl (takeI_bad bs)⟩
    · rw [h]
      rcases take_ways rest with ⟨x, hx⟩ | ⟨x, rest', hx⟩
      · simp only [hx]; exact .inl ⟨_, rfl⟩
      · simp only [hx]; exact .inr ⟨_, _, rfl⟩
def Plain (x : Ins) : Prop := ∀ l ∈ shapeL x.op, l ≠ 110 → 0 ≤ x.get (offL l)
theorem takes_yes (bs : List Nat) (hs : ∀ b ∈ bs, b < 256) : ∀ (k : Nat) (l : List Ins) (rest : List Nat), takeN k bs false = (l, rest, false) → (∀ x ∈ l, Plain x) → encIs l ++ rest = bs ∧ ∀ b ∈ rest, b < 256
  | 0, l, rest, h, _ => by
    rw [takeN] at h
    simp only [Prod.mk.injEq] at h
    obtain ⟨rfl, rfl, _⟩ := h
    exact ⟨rfl, hs⟩
  | k + 1, l, rest, h, hp => by
    rw [takeN] at h
    rcases takeN_ways k bs with ⟨r, hk⟩ | ⟨r, mid, hk⟩
    · rw [hk] at h
      have h2 := congrArg (·.2) h
      simp only [] at h2
      rw [takeI_bad bs] at h2
      simp at h2
    · rw [hk] at h
      rcases take_ways mid with ⟨x, hx⟩ | ⟨x, rest', hx⟩
      · simp only [hx] at h
        simp at h
      · simp only [hx, Prod.mk.injEq] at h
        obtain ⟨rfl, rfl, _⟩ := h
        obtain ⟨h1, h2⟩ := takes_yes bs hs k r mid hk (fun y hy => hp y (List.mem_append_left _ hy))
        have h3 := take_yes h2 hx (hp x (List.mem_append_right _ (List.mem_singleton.2 rfl)))
        refine ⟨?_, fun b hb => h2 b (by rw [← h3]; exact List.mem_append_right _ hb)⟩
        rw [show encIs (r ++ [x]) = encIs r ++ encI x by unfold encIs; rw [List.flatMap_append, List.flatMap_singleton], List.append_assoc, h3, h1]
theorem good_plain {f : Int} {l : List Ins} (h : chk f l = -2) : ∀ x ∈ l, Plain x := by
  obtain ⟨hh, hall⟩ := chk_good h
  intro x hx q hq h110
  obtain ⟨k, hk, rfl⟩ := List.getElem_of_mem hx
  have h1 := hall k hk
  unfold goodAt goodI at h1
  rw [List.getD_eq_getElem?_getD, List.getElem?_eq_getElem hk] at h1
  simp only [Option.getD_some, Bool.and_eq_true, List.all_eq_true, decide_eq_true_iff] at h1
  have h3 := h1.2.1 q hq
  unfold inB at h3
  rw [decide_eq_false h110, Bool.false_or, decide_eq_true_iff] at h3
  have := loL_ge q
  omega
theorem wrapI_back {n : Nat} (h : n < 18446744073709551616) {z : Int} (hz : wrapI n = z) (h0 : 0 ≤ z) : n = z.toNat := by
  unfold wrapI at hz
  rw [IntKind.wrap_i64] at hz
  omega
/-- What is decoded was encoded. -/
theorem dec_yes {xs : List Nat} (hs : ∀ b ∈ xs, b < 256) (h : decOk xs = true) : xs = encP (readP xs).1.toNat (readP xs).2.1 ∧ chk (readP xs).1 (readP xs).2.1 = -2 := by
  unfold decOk at h
  simp only [Bool.and_eq_true, decide_eq_true_iff] at h
  obtain ⟨⟨hb, hr⟩, hc⟩ := h
  refine ⟨?_, hc⟩
  obtain ⟨hh, _⟩ := chk_good hc
  have hp := good_plain hc
  rcases rcount_ways xs with h1 | ⟨u, bs1, h1⟩
  · unfold readP at hb
    rw [h1] at hb
    simp only [rcount_empty] at hb
    rw [takeN_bad] at hb
    cases hb
  · obtain ⟨e1, hu⟩ := rcount_yes hs h1
    have hs1 := small_rest hs h1
    rcases rcount_ways bs1 with h2 | ⟨u2, bs2, h2⟩
    · unfold readP at hb
      rw [h1] at hb
      simp only [h2] at hb
      rw [takeN_bad] at hb
      cases hb
    · obtain ⟨e2, hu2⟩ := rcount_yes hs1 h2
      have hs2 := small_rest hs1 h2
      have er : readP xs = (wrapI u, takeN (min u2 33) bs2 false) := by unfold readP; rw [h1]; simp only [h2]
      rw [er] at hb hr hc hh hp ⊢
      simp only [] at hb hr hc hh hp ⊢
      have hlen := takeN_len (min u2 33) bs2 false
      generalize hT : takeN (min u2 33) bs2 false = T at hb hr hc hh hp hlen ⊢
      obtain ⟨l, rest, bad⟩ := T
      simp only [] at hb hr hc hh hp hlen ⊢
      subst hb hr
      obtain ⟨h3, _⟩ := takes_yes bs2 hs2 _ l [] hT hp
      rw [List.append_nil] at h3
      have hf := wrapI_back hu rfl (show 0 ≤ wrapI u by omega)
      have hl : u2 = l.length := by omega
      unfold encP
      rw [e1, e2, ← hf, ← hl, h3, List.append_assoc]
end Go.Proofs.YtkeckjgihjpfbaaDoor
