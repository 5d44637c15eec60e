/- SlM: put together. -/
import Derived.Test.YtjmjehhmkjhalaaQb08
import Derived.Test.YtjmjehhmkjhalaaQb23
/- What a manifest is, as bytes and as a sector, there and back: pure. -/
namespace Go.Proofs.Ytjmjehhmkjhalaa
set_option maxRecDepth 100000
open Go.RowKit

/-- A manifest. -/
structure Mf where
  gen : Int
  epoch : Int
  base : Int
  area : Int
  len : Int
  heads : List Int
/-- A good one. -/
structure GoodM (m : Mf) : Prop where
  g1 : 1 ≤ m.gen
  g2 : m.gen ≤ 17179869183
  e1 : 1 ≤ m.epoch
  e2 : m.epoch ≤ 65535
  b1 : 0 ≤ m.base
  b2 : m.base ≤ 281474976710655
  a1 : 0 ≤ m.area
  a2 : m.area ≤ 1
  l1 : 0 ≤ m.len
  l2 : m.len ≤ 1048576
  h1 : 1 ≤ m.heads.length
  h2 : m.heads.length ≤ 4
  hs : ∀ h ∈ m.heads, 0 ≤ h ∧ h ≤ 4294967294
def hdsB (hs : List Int) : List Nat := hs.flatMap fun h => cntN h.toNat
def encM (m : Mf) : List Nat := cntN m.epoch.toNat ++ (cntN m.base.toNat ++ (cntN m.area.toNat ++ (cntN m.len.toNat ++ (cntN m.heads.length ++ (hdsB m.heads ++ [77])))))
def secM (m : Mf) : List Nat := sealN m.gen.toNat 3 (encM m)
theorem hdsB_cons (h : Int) (hs : List Int) : hdsB (h :: hs) = cntN h.toNat ++ hdsB hs := rfl
theorem size_at (n k : Nat) (hk : 1 ≤ k) (hn : n < 128 ^ k) (h64 : n < 18446744073709551616) : sizeN n ≤ k := by
  have h := size_spec n h64
  by_cases h2 : 2 ≤ sizeN n
  · have h3 := h.2.2.2 h2
    have h4 : 128 ^ (sizeN n - 1) < 128 ^ k := Nat.lt_of_le_of_lt h3 hn
    have h5 : sizeN n - 1 < k := by
      rcases Nat.lt_or_ge (sizeN n - 1) k with q | q
      · exact q
      · exact absurd (Nat.pow_le_pow_right (n := 128) (by decide) q) (by omega)
    omega
  · omega
theorem cnt_len (n k : Nat) (hk : 1 ≤ k) (hn : n < 128 ^ k) (h64 : n < 18446744073709551616) : (cntN n).length ≤ k := by
  rw [(cntN_length n h64).1]; exact size_at n k hk hn h64
theorem hdsB_len : ∀ (hs : List Int), (∀ h ∈ hs, 0 ≤ h ∧ h ≤ 4294967294) → (hdsB hs).length ≤ 5 * hs.length
  | [], _ => by simp [hdsB]
  | h :: t, H => by
    have h0 := H h (List.mem_cons_self ..)
    have h1 := cnt_len h.toNat 5 (by decide) (by have : (128 : Nat) ^ 5 = 34359738368 := by decide
                                                 omega) (by omega)
    have h2 := hdsB_len t (fun x hx => H x (List.mem_cons_of_mem _ hx))
    rw [hdsB_cons, List.length_append, List.length_cons]
    omega
theorem encM_len {m : Mf} (g : GoodM m) : (encM m).length ≤ 36 := by
  have p3 : (128 : Nat) ^ 3 = 2097152 := by decide
  have p7 : (128 : Nat) ^ 7 = 562949953421312 := by decide
  have p1 : (128 : Nat) ^ 1 = 128 := by decide
  obtain ⟨g1, g2, e1, e2, b1, b2, a1, a2, l1, l2, h1, h2, hs⟩ := g
  have c1 := cnt_len m.epoch.toNat 3 (by decide) (by omega) (by omega)
  have c2 := cnt_len m.base.toNat 7 (by decide) (by omega) (by omega)
  have c3 := cnt_len m.area.toNat 1 (by decide) (by omega) (by omega)
  have c4 := cnt_len m.len.toNat 3 (by decide) (by omega) (by omega)
  have c5 := cnt_len m.heads.length 1 (by decide) (by omega) (by omega)
  have c6 := hdsB_len m.heads hs
  simp only [encM, List.length_append, List.length_cons, List.length_nil]
  omega
theorem encM_small (m : Mf) : ∀ x ∈ encM m, x < 256 := by
  intro x hx
  simp only [encM, List.mem_append, List.mem_cons, List.not_mem_nil, or_false, hdsB, List.mem_flatMap] at hx
  rcases hx with h | h | h | h | h | ⟨y, _, h⟩ | h
  · exact cntN_small_all _ x h
  · exact cntN_small_all _ x h
  · exact cntN_small_all _ x h
  · exact cntN_small_all _ x h
  · exact cntN_small_all _ x h
  · exact cntN_small_all _ x h
  · omega
theorem secM_len {m : Mf} (g : GoodM m) : (secM m).length = 64 := sealN_length _ _ _ (by have := encM_len g; omega)
theorem secM_small {m : Mf} (g : GoodM m) : ∀ x ∈ secM m, x < 256 := sealN_small _ _ _ (by decide) (by have := encM_len g; omega) (encM_small m)

/-- So many heads are read. -/
def readH : Nat → List Nat → List Nat × List Nat
  | 0, bs => ([], bs)
  | n + 1, bs => ((rcount bs).1 :: (readH n (rcount bs).2.1).1, (readH n (rcount bs).2.1).2)
theorem readH_len : ∀ (n : Nat) (bs : List Nat), (readH n bs).1.length = n
  | 0, _ => rfl
  | n + 1, bs => by simp [readH, readH_len n]
theorem readH_succ : ∀ (n : Nat) (bs : List Nat), readH (n + 1) bs = ((readH n bs).1 ++ [(rcount (readH n bs).2).1], (rcount (readH n bs).2).2.1)
  | 0, bs => by simp [readH]
  | n + 1, bs => by
    rw [readH, readH_succ n]
    simp [readH]
theorem readH_more (n k : Nat) (bs : List Nat) (h : (readH n bs).2 = []) (hk : n ≤ k) : (readH k bs).2 = [] := by
  induction k with
  | zero => have : n = 0 := by omega
            rw [this] at h; exact h
  | succ k ih =>
    by_cases e : n = k + 1
    · rw [← e]; exact h
    · rw [readH_succ, ih (by omega)]; rfl
/-- Numbers as a conversion lets them be. -/
structure Conv (f : Nat → Int) : Prop where
  up : ∀ n : Nat, n ≤ 562949953421312 → f n = (n : Int)
  dn : ∀ n : Nat, 0 ≤ f n → f n ≤ 562949953421312 → f n = (n : Int)
def parseM (f : Nat → Int) (st : Nat) (d : List Nat) : Mf :=
  ⟨(st : Int), f (rcount d).1, f (rcount (rcount d).2.1).1, f (rcount (rcount (rcount d).2.1).2.1).1, f (rcount (rcount (rcount (rcount d).2.1).2.1).2.1).1,
    ((readH (min (rcount (rcount (rcount (rcount (rcount d).2.1).2.1).2.1).2.1).1 5) (rcount (rcount (rcount (rcount (rcount d).2.1).2.1).2.1).2.1).2.1).1).map f⟩
def restM (d : List Nat) : List Nat := (readH (min (rcount (rcount (rcount (rcount (rcount d).2.1).2.1).2.1).2.1).1 5) (rcount (rcount (rcount (rcount (rcount d).2.1).2.1).2.1).2.1).2.1).2
theorem conv_good {f g : Nat → Int} (F : Conv f) (G : Conv g) (x : Int) (a b c d : Nat) (hs : List Nat) (h : GoodM ⟨x, f a, f b, f c, f d, hs.map f⟩) :
    (⟨x, f a, f b, f c, f d, hs.map f⟩ : Mf) = ⟨x, g a, g b, g c, g d, hs.map g⟩ := by
  obtain ⟨_, _, e1, e2, b1, b2, a1, a2, l1, l2, _, _, hh⟩ := h
  have key : ∀ n : Nat, 0 ≤ f n → f n ≤ 562949953421312 → f n = g n := fun n h1 h2 => by
    have e := F.dn n h1 h2
    rw [e, G.up n (by omega)]
  dsimp only at e1 e2 b1 b2 a1 a2 l1 l2 hh
  rw [key a (by omega) (by omega), key b (by omega) (by omega), key c (by omega) (by omega), key d (by omega) (by omega)]
  congr 1
  refine List.map_congr_left fun n hn => ?_
  have := hh (f n) (List.mem_map_of_mem hn)
  exact key n (by omega) (by omega)
open Classical in
/-- What is opened of a sector. -/
noncomputable def openM (f : Nat → Int) (l : List Nat) : Option Mf :=
  match openN l with
  | some (st, kd, d) => if kd = 3 ∧ restM d = [77] ∧ GoodM (parseM f st d) then some (parseM f st d) else none
  | none => none
theorem openM_conv {f g : Nat → Int} (F : Conv f) (G : Conv g) (l : List Nat) : openM f l = openM g l := by
  unfold openM
  cases openN l with
  | none => rfl
  | some r =>
    obtain ⟨st, kd, d⟩ := r
    dsimp only
    by_cases h : GoodM (parseM f st d)
    · have e : parseM f st d = parseM g st d := conv_good F G _ _ _ _ _ _ h
      rw [e]
    · have h' : ¬ GoodM (parseM g st d) := fun q => h (by
        have e : parseM g st d = parseM f st d := conv_good G F _ _ _ _ _ _ q
        rw [← e]; exact q)
      rw [if_neg (fun q => h q.2.2), if_neg (fun q => h' q.2.2)]
theorem readH_hds : ∀ (hs : List Int) (rest : List Nat), (∀ h ∈ hs, 0 ≤ h ∧ h ≤ 4294967294) → readH hs.length (hdsB hs ++ rest) = (hs.map Int.toNat, rest)
  | [], _, _ => rfl
  | h :: t, rest, H => by
    have h0 := H h (List.mem_cons_self ..)
    rw [List.length_cons, readH, hdsB_cons, List.append_assoc, rcount_cntN _ (by omega)]
    dsimp only
    rw [readH_hds t rest (fun x hx => H x (List.mem_cons_of_mem _ hx))]
    rfl
/-- What was sealed is opened. -/
theorem openM_sec {f : Nat → Int} (F : Conv f) {m : Mf} (g : GoodM m) : openM f (secM m) = some m := by
  have hl := encM_len g
  have g0 := g
  obtain ⟨g1, g2, e1, e2, b1, b2, a1, a2, l1, l2, h1, h2, hs⟩ := g
  have hu : ∀ z : Int, 0 ≤ z → z ≤ 562949953421312 → f z.toNat = z := fun z p q => by rw [F.up _ (by omega)]; omega
  have hp : restM (encM m) = [77] ∧ parseM f m.gen.toNat (encM m) = m := by
    unfold restM parseM encM
    simp only [rcount_cntN m.epoch.toNat (by omega), rcount_cntN m.base.toNat (by omega), rcount_cntN m.area.toNat (by omega), rcount_cntN m.len.toNat (by omega), rcount_cntN m.heads.length (by omega)]
    rw [Nat.min_eq_left (by omega), readH_hds _ _ hs]
    refine ⟨rfl, ?_⟩
    dsimp only
    rw [hu _ (by omega) (by omega), hu _ (by omega) (by omega), hu _ (by omega) (by omega), hu _ (by omega) (by omega), List.map_map]
    have e : m.heads.map (f ∘ Int.toNat) = m.heads := by
      conv => rhs; rw [← List.map_id m.heads]
      refine List.map_congr_left fun h hh => ?_
      have := hs h hh
      exact hu h (by omega) (by omega)
    rw [e, Int.toNat_of_nonneg (by omega)]
  unfold openM secM
  rw [openN_sealN _ _ _ (by omega) (by omega) (by decide) (by omega)]
  dsimp only
  rw [hp.2, if_pos ⟨rfl, hp.1, g0⟩]
theorem openM_good {f : Nat → Int} {l : List Nat} {m : Mf} (h : openM f l = some m) : GoodM m := by
  unfold openM at h
  split at h
  · split at h
    · rename_i q
      injection h with h
      rw [← h]; exact q.2.2
    · cases h
  · cases h
theorem rcount_ways (bs : List Nat) : rcount bs = (0, [], true) ∨ ∃ x rest, rcount bs = (x, rest, false) := rcnt_ways 10 0 0 bs
theorem rc_lt {bs : List Nat} (hs : ∀ b ∈ bs, b < 256) : (rcount bs).1 < 18446744073709551616 := by
  rcases rcount_ways bs with h | ⟨x, rest, h⟩
  · rw [h]; decide
  · rw [h]; exact (rcount_yes hs h).2
theorem cntN_pos (n : Nat) (h : n < 18446744073709551616) : 1 ≤ (cntN n).length := by
  have h1 := cntN_length n h
  have h2 := size_spec n h
  omega
theorem rcount_less {bs : List Nat} (hs : ∀ b ∈ bs, b < 256) (hb : (rcount bs).2.2 = false) : (rcount bs).2.1.length < bs.length := by
  rcases rcount_ways bs with h | ⟨x, rest, h⟩
  · rw [h] at hb; cases hb
  · have h1 := rcount_yes hs h
    have h2 := cntN_pos x h1.2
    rw [h]
    dsimp only
    rw [h1.1, List.length_append]
    omega
theorem rcount_small {bs : List Nat} (hs : ∀ b ∈ bs, b < 256) : ∀ b ∈ (rcount bs).2.1, b < 256 := by
  rcases rcount_ways bs with h | ⟨x, rest, h⟩
  · rw [h]; intro b hb; cases hb
  · have h1 := rcount_yes hs h
    rw [h]
    intro b hb
    exact hs b (by rw [h1.1]; exact List.mem_append_right _ hb)
theorem readH_small : ∀ (n : Nat) {bs : List Nat}, (∀ b ∈ bs, b < 256) → ∀ b ∈ (readH n bs).2, b < 256
  | 0, _, h => h
  | n + 1, _, h => readH_small n (rcount_small h)
/-- int(n) of a count. -/
def cI (n : Nat) : Int := if n < 9223372036854775808 then (n : Int) else if n < 18446744073709551616 then (n : Int) - 18446744073709551616 else -1
theorem cI_wrap (n : Nat) (h : n < 18446744073709551616) : IntKind.i64.wrap (n : Int) = cI n := by
  rw [IntKind.wrap_i64]
  unfold cI
  split
  · omega
  · first | omega | (rw [if_pos h]; omega)
theorem conv_cI : Conv cI := ⟨fun n h => by unfold cI; rw [if_pos (by omega)], fun n h1 h2 => by
  unfold cI at h1 h2 ⊢
  split
  · rfl
  · exfalso
    rename_i q
    rw [if_neg q] at h1
    split at h1 <;> omega⟩
/-- The document's count: no more than 2^50. -/
def c50 (n : Nat) : Int := if 1125899906842624 < n then -1 else (n : Int)
theorem conv_c50 : Conv c50 := ⟨fun n h => by unfold c50; rw [if_neg (by omega)], fun n h1 h2 => by
  unfold c50 at h1 h2 ⊢
  split
  · exfalso
    rename_i q
    rw [if_pos q] at h1
    omega
  · rfl⟩
theorem cI_c50 (l : List Nat) : openM cI l = openM c50 l := openM_conv conv_cI conv_c50 l
/-- The number of heads that are told. -/
def cntH (d : List Nat) : Nat := (rcount (rcount (rcount (rcount (rcount d).2.1).2.1).2.1).2.1).1
/-- Where the heads begin. -/
def atH (d : List Nat) : List Nat := (rcount (rcount (rcount (rcount (rcount d).2.1).2.1).2.1).2.1).2.1
/-- A manifest of which i heads were read. -/
def partM (f : Nat → Int) (st : Nat) (d : List Nat) (i : Nat) : Mf :=
  ⟨(st : Int), f (rcount d).1, f (rcount (rcount d).2.1).1, f (rcount (rcount (rcount d).2.1).2.1).1, f (rcount (rcount (rcount (rcount d).2.1).2.1).2.1).1, ((readH i (atH d)).1).map f⟩
theorem parse_part (f : Nat → Int) (st : Nat) (d : List Nat) : parseM f st d = partM f st d (min (cntH d) 5) := rfl
theorem rest_part (d : List Nat) : restM d = (readH (min (cntH d) 5) (atH d)).2 := rfl
theorem part_len (f : Nat → Int) (st : Nat) (d : List Nat) (i : Nat) : (partM f st d i).heads.length = i := by simp [partM, readH_len]
/-- Heads that are read one by one, till one is bad or all are read: the same ones are taken. -/
theorem doc_end (f : Nat → Int) (st : Nat) (d : List Nat) (i : Nat) (hi : i ≤ cntH d) (hend : i = cntH d ∨ (readH i (atH d)).2 = []) :
    ((readH i (atH d)).2 = [77] ∧ GoodM (partM f st d i)) ↔ (restM d = [77] ∧ GoodM (parseM f st d)) := by
  rw [rest_part, parse_part]
  constructor
  · rintro ⟨h1, h2⟩
    have hn : i = cntH d := by
      rcases hend with h | h
      · exact h
      · rw [h] at h1; cases h1
    have h3 := h2.h2
    rw [part_len] at h3
    rw [Nat.min_eq_left (by omega), ← hn]
    exact ⟨h1, h2⟩
  · rintro ⟨h1, h2⟩
    have h3 := h2.h2
    rw [part_len] at h3
    have h4 : min (cntH d) 5 = cntH d := by omega
    rw [h4] at h1 h2
    have hn : i = cntH d := by
      rcases hend with h | h
      · exact h
      · rw [readH_more i (cntH d) _ h hi] at h1; cases h1
    rw [hn]
    exact ⟨h1, h2⟩
theorem doc_same (f : Nat → Int) (st : Nat) (d : List Nat) (i : Nat) (_ : i ≤ cntH d) (h1 : (readH i (atH d)).2 = [77]) (h2 : GoodM (partM f st d i)) (hend : i = cntH d ∨ (readH i (atH d)).2 = []) : partM f st d i = parseM f st d := by
  have hn : i = cntH d := by
    rcases hend with h | h
    · exact h
    · rw [h] at h1; cases h1
  have h3 := h2.h2
  rw [part_len] at h3
  rw [parse_part, Nat.min_eq_left (by omega), ← hn]

theorem doc_none (f : Nat → Int) (st : Nat) (d : List Nat) (i : Nat) (hi : i = 0) (h5 : 5 ≤ cntH d) : ¬ GoodM (partM f st d i) ∧ ¬ GoodM (parseM f st d) := by
  refine ⟨fun h => ?_, fun h => ?_⟩
  · have := h.h1
    rw [part_len] at this; omega
  · have := h.h2
    rw [parse_part, part_len] at this; omega
theorem rcount_len {bs : List Nat} (hs : ∀ b ∈ bs, b < 256) : (rcount bs).2.1.length ≤ bs.length := by
  rcases rcount_ways bs with h | ⟨x, rest, h⟩
  · rw [h]; simp
  · have h1 := rcount_yes hs h
    rw [h]
    dsimp only
    rw [h1.1, List.length_append]
    omega
/-- What the document's reading comes to. -/
theorem doc_some {f : Nat → Int} {l : List Nat} {st : Nat} {d : List Nat} {i : Nat} (h : openN l = some (st, 3, d)) (hi : i ≤ cntH d) (hend : i = cntH d ∨ (readH i (atH d)).2 = [] ∨ (i = 0 ∧ 5 ≤ cntH d)) (h1 : (readH i (atH d)).2 = [77]) (h2 : GoodM (partM f st d i)) : openM f l = some (partM f st d i) := by
  rcases hend with e | e | e
  · have h3 := (doc_end f st d i hi (.inl e)).1 ⟨h1, h2⟩
    rw [doc_same f st d i hi h1 h2 (.inl e)]
    unfold openM
    rw [h]
    dsimp only
    rw [if_pos ⟨rfl, h3⟩]
  · rw [e] at h1; cases h1
  · exact absurd h2 (doc_none f st d i e.1 e.2).1
theorem doc_not {f : Nat → Int} {l : List Nat} {st : Nat} {d : List Nat} {i : Nat} (h : openN l = some (st, 3, d)) (hi : i ≤ cntH d) (hend : i = cntH d ∨ (readH i (atH d)).2 = [] ∨ (i = 0 ∧ 5 ≤ cntH d)) (hn : ¬ ((readH i (atH d)).2 = [77] ∧ GoodM (partM f st d i))) : openM f l = none := by
  have key : ¬ (restM d = [77] ∧ GoodM (parseM f st d)) := by
    rcases hend with e | e | e
    · exact fun q => hn ((doc_end f st d i hi (.inl e)).2 q)
    · exact fun q => hn ((doc_end f st d i hi (.inr e)).2 q)
    · exact fun q => (doc_none f st d i e.1 e.2).2 q.2
  unfold openM
  rw [h]
  dsimp only
  rw [if_neg (fun q => key q.2)]
end Go.Proofs.Ytjmjehhmkjhalaa
