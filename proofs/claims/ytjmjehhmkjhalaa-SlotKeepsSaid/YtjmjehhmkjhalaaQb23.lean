/- LSlabMath: put together. -/

/- Sectors as rows of 64 bytes: a slab's sector, what is opened, what a tear leaves. -/
namespace Go.Proofs.Ytjmjehhmkjhalaa

/-- The first k bytes of a number, the lowest first. -/
def leN (n k : Nat) : List Nat := (List.range k).map fun i => n / 256 ^ i % 256
theorem leN_length (n k : Nat) : (leN n k).length = k := by simp [leN]
theorem leN_succ (n k : Nat) : leN n (k + 1) = leN n k ++ [n / 256 ^ k % 256] := by simp [leN, List.range_succ]
theorem leN_small (n k : Nat) : ∀ x ∈ leN n k, x < 256 := by
  intro x hx
  simp only [leN, List.mem_map] at hx
  obtain ⟨i, _, rfl⟩ := hx
  exact Nat.mod_lt _ (by decide)
/-- The number of bytes, the lowest first. -/
def ofLE : List Nat → Nat
  | [] => 0
  | x :: xs => x + 256 * ofLE xs
theorem ofLE_lt : ∀ xs : List Nat, (∀ x ∈ xs, x < 256) → ofLE xs < 256 ^ xs.length
  | [], _ => by simp [ofLE]
  | x :: xs, h => by
    have h1 := ofLE_lt xs (fun y hy => h y (List.mem_cons_of_mem _ hy))
    have h2 := h x (List.mem_cons_self ..)
    simp only [ofLE, List.length_cons, Nat.pow_succ]
    omega
theorem ofLE_append : ∀ (xs ys : List Nat), ofLE (xs ++ ys) = ofLE xs + 256 ^ xs.length * ofLE ys
  | [], ys => by simp [ofLE]
  | x :: xs, ys => by
    simp only [List.cons_append, ofLE, ofLE_append xs ys, List.length_cons, Nat.pow_succ, Nat.mul_add]
    rw [Nat.mul_comm (256 ^ xs.length) 256, Nat.mul_assoc]
    omega
theorem ofLE_inj : ∀ (xs ys : List Nat), xs.length = ys.length → (∀ x ∈ xs, x < 256) → (∀ y ∈ ys, y < 256) → ofLE xs = ofLE ys → xs = ys
  | [], [], _, _, _, _ => rfl
  | x :: xs, y :: ys, hl, hx, hy, h => by
    have h1 := hx x (List.mem_cons_self ..)
    have h2 := hy y (List.mem_cons_self ..)
    simp only [ofLE] at h
    have e : x = y := by omega
    subst e
    rw [ofLE_inj xs ys (by simpa using hl) (fun z hz => hx z (List.mem_cons_of_mem _ hz)) (fun z hz => hy z (List.mem_cons_of_mem _ hz)) (by omega)]
theorem leN_cons (n k : Nat) : leN n (k + 1) = n % 256 :: leN (n / 256) k := by
  unfold leN
  rw [List.range_succ_eq_map, List.map_cons, List.map_map]
  congr 1
  · simp
  · refine List.map_congr_left fun i _ => ?_
    simp only [Function.comp]
    rw [Nat.pow_succ, Nat.mul_comm, Nat.div_div_eq_div_mul]
theorem ofLE_leN : ∀ (k n : Nat), n < 256 ^ k → ofLE (leN n k) = n
  | 0, n, h => by simp at h; subst h; rfl
  | k + 1, n, h => by
    rw [leN_cons]
    simp only [ofLE]
    rw [Nat.pow_succ] at h
    rw [ofLE_leN k (n / 256) (by omega)]
    omega
theorem leN_ofLE (xs : List Nat) (h : ∀ x ∈ xs, x < 256) : leN (ofLE xs) xs.length = xs := by
  refine ofLE_inj _ _ (leN_length _ _) (leN_small _ _) h ?_
  exact ofLE_leN _ _ (ofLE_lt xs h)
def noughts (k : Nat) : List Nat := List.replicate k 0
theorem noughts_length (k : Nat) : (noughts k).length = k := by simp [noughts]
/-- A slab's sector. -/
def sealN (st kd : Nat) (d : List Nat) : List Nat := leN st 6 ++ (kd :: d.length :: (d ++ noughts (50 - d.length))) ++ leN st 6
theorem sealN_length (st kd : Nat) (d : List Nat) (h : d.length ≤ 50) : (sealN st kd d).length = 64 := by
  simp [sealN, leN_length, noughts_length]; omega
theorem sealN_small (st kd : Nat) (d : List Nat) (hk : kd < 256) (hd : d.length ≤ 50) (hs : ∀ x ∈ d, x < 256) : ∀ x ∈ sealN st kd d, x < 256 := by
  intro x hx
  simp only [sealN, noughts, List.mem_append, List.mem_cons, List.mem_replicate] at hx
  rcases hx with (h | h | h | h | h) | h
  · exact leN_small _ _ x h
  · omega
  · omega
  · exact hs x h
  · omega
  · exact leN_small _ _ x h
/-- The sector on the way: k bytes of the stamp at both ends. -/
def midN (st k : Nat) : List Nat := leN st k ++ noughts (58 - k) ++ (leN st k ++ noughts (6 - k))
theorem midN_length (st k : Nat) (h : k ≤ 6) : (midN st k).length = 64 := by simp [midN, leN_length, noughts_length]; omega
theorem set_mid (xs ys : List Nat) (z x k : Nat) (hk : xs.length = k) : (xs ++ z :: ys).set k x = xs ++ x :: ys := by
  subst hk
  simp
theorem midN_set (st k : Nat) (h : k < 6) : ((midN st k).set k (st / 256 ^ k % 256)).set (58 + k) (st / 256 ^ k % 256) = midN st (k + 1) := by
  obtain ⟨x, hx⟩ : ∃ x, x = st / 256 ^ k % 256 := ⟨_, rfl⟩
  unfold midN
  rw [leN_succ, ← hx]
  have e1 : noughts (58 - k) = 0 :: noughts (58 - (k + 1)) := by
    rw [show 58 - k = (58 - (k + 1)) + 1 by omega]; rfl
  have e2 : noughts (6 - k) = 0 :: noughts (6 - (k + 1)) := by
    rw [show 6 - k = (6 - (k + 1)) + 1 by omega]; rfl
  rw [e1, e2]
  have h1 : (leN st k ++ 0 :: noughts (58 - (k + 1)) ++ (leN st k ++ 0 :: noughts (6 - (k + 1)))).set k x = leN st k ++ x :: noughts (58 - (k + 1)) ++ (leN st k ++ 0 :: noughts (6 - (k + 1))) := by
    rw [List.append_assoc, List.cons_append, set_mid _ _ 0 x k (leN_length _ _), List.append_assoc, List.cons_append]
  rw [h1, ← List.append_assoc, set_mid _ _ 0 x (58 + k) (by simp [leN_length, noughts_length]; omega)]
  simp
theorem midN_zero (st : Nat) : midN st 0 = noughts 64 := by
  simp [midN, leN, noughts]
theorem midN_six (st kd m : Nat) : ((midN st 6).set 6 kd).set 7 m = leN st 6 ++ (kd :: m :: noughts 50) ++ leN st 6 := by
  have e : noughts (58 - 6) = 0 :: 0 :: noughts 50 := rfl
  have e2 : noughts (6 - 6) = [] := rfl
  unfold midN
  rw [e, e2, List.append_nil]
  rw [List.append_assoc, List.cons_append, set_mid _ _ 0 kd 6 (leN_length _ _)]
  rw [show leN st 6 ++ kd :: (0 :: noughts 50 ++ leN st 6) = (leN st 6 ++ [kd]) ++ 0 :: (noughts 50 ++ leN st 6) by simp]
  rw [set_mid _ _ 0 m 7 (by simp [leN_length])]
  simp

/-- What is opened of a sector. -/
def openN (s : List Nat) : Option (Nat × Nat × List Nat) :=
  let st := ofLE (s.take 6)
  let m := s.getD 7 0
  if 1 ≤ st ∧ ofLE (s.drop 58) = st ∧ s.getD 6 0 ≠ 0 ∧ m ≤ 50 ∧ ((s.drop (8 + m)).take (50 - m)).all (· == 0) = true then some (st, s.getD 6 0, (s.drop 8).take m) else none
theorem split_sector (s : List Nat) (hl : s.length = 64) (m : Nat) (hm : s.getD 7 0 = m) (h50 : m ≤ 50) : s = s.take 6 ++ (s.getD 6 0 :: m :: ((s.drop 8).take m ++ (s.drop (8 + m)).take (50 - m))) ++ s.drop 58 := by
  have h1 : s.drop 6 = s.getD 6 0 :: s.drop 7 := by
    rw [List.drop_eq_getElem_cons (by omega)]
    simp [List.getD_eq_getElem?_getD, List.getElem?_eq_getElem (show 6 < s.length by omega)]
  have h2 : s.drop 7 = m :: s.drop 8 := by
    rw [List.drop_eq_getElem_cons (by omega)]
    rw [← hm]
    simp [List.getD_eq_getElem?_getD, List.getElem?_eq_getElem (show 7 < s.length by omega)]
  have h3 : (s.drop 8).take m ++ (s.drop (8 + m)).take (50 - m) = (s.drop 8).take 50 := by
    have e : s.drop (8 + m) = (s.drop 8).drop m := by rw [List.drop_drop]
    rw [e]
    have := List.take_add (i := m) (j := 50 - m) (l := s.drop 8)
    rw [← this]
    congr 1
    omega
  rw [h3]
  have h4 : (s.drop 8).take 50 ++ s.drop 58 = s.drop 8 := by
    have : s.drop 58 = (s.drop 8).drop 50 := by rw [List.drop_drop]
    rw [this, List.take_append_drop]
  rw [List.append_assoc, List.cons_append, List.cons_append, h4, ← h2, ← h1, List.take_append_drop]
theorem eq_noughts (l : List Nat) (h : ∀ x ∈ l, x = 0) : l = noughts l.length := by
  rw [noughts]; exact List.eq_replicate_iff.2 ⟨rfl, h⟩
theorem openN_some {s : List Nat} (hl : s.length = 64) (hs : ∀ x ∈ s, x < 256) {st kd : Nat} {d : List Nat} (h : openN s = some (st, kd, d)) :
    1 ≤ st ∧ st < 281474976710656 ∧ 1 ≤ kd ∧ kd < 256 ∧ d.length ≤ 50 ∧ (∀ x ∈ d, x < 256) ∧ s = sealN st kd d := by
  unfold openN at h
  dsimp only at h
  split at h
  · rename_i hc
    obtain ⟨h1, h2, h3, h4, h50⟩ := hc
    have h5 : ∀ x ∈ (s.drop (8 + s.getD 7 0)).take (50 - s.getD 7 0), x = 0 := fun x hx => by
      have := List.all_eq_true.1 h50 x hx
      simpa using this
    injection h with h
    injection h with e1 h
    injection h with e2 e3
    have ht6 : (s.take 6).length = 6 := by simp; omega
    have hd58 : (s.drop 58).length = 6 := by simp; omega
    have hs6 : ∀ x ∈ s.take 6, x < 256 := fun x hx => hs x (List.mem_of_mem_take hx)
    have hs58 : ∀ x ∈ s.drop 58, x < 256 := fun x hx => hs x (List.mem_of_mem_drop hx)
    have hlt := ofLE_lt _ hs6
    rw [ht6, e1] at hlt
    have hdl : d.length = s.getD 7 0 := by rw [← e3, List.length_take, List.length_drop]; omega
    have hkd : kd < 256 := by
      rw [← e2]
      rw [List.getD_eq_getElem?_getD, List.getElem?_eq_getElem (show 6 < s.length by omega)]
      exact hs _ (List.getElem_mem _)
    refine ⟨by omega, by omega, by omega, hkd, by omega, fun x hx => ?_, ?_⟩
    · rw [← e3] at hx
      exact hs x (List.mem_of_mem_drop (List.mem_of_mem_take hx))
    · have hsp := split_sector s hl (s.getD 7 0) rfl h4
      have q1 : s.take 6 = leN st 6 := by
        have := leN_ofLE _ hs6
        rw [ht6, e1] at this
        exact this.symm
      have q2 : s.drop 58 = leN st 6 := by
        have := leN_ofLE _ hs58
        rw [hd58, h2, e1] at this
        exact this.symm
      have q3 : (s.drop (8 + s.getD 7 0)).take (50 - s.getD 7 0) = noughts (50 - s.getD 7 0) := by
        have := eq_noughts _ h5
        rw [this]
        congr 1
        simp
        omega
      rw [hsp, q1, q2, q3]
      unfold sealN
      rw [← hdl, e2, ← e3]
      rw [e3, hdl, e3]
  · cases h
theorem openN_sealN (st kd : Nat) (d : List Nat) (h1 : 1 ≤ st) (h2 : st < 281474976710656) (h3 : 1 ≤ kd) (h5 : d.length ≤ 50) : openN (sealN st kd d) = some (st, kd, d) := by
  have e6 : (sealN st kd d).take 6 = leN st 6 := by
    unfold sealN
    rw [List.append_assoc, List.take_append_of_le_length (by rw [leN_length]; omega), List.take_of_length_le (by rw [leN_length]; omega)]
  have e58 : (sealN st kd d).drop 58 = leN st 6 := by
    unfold sealN
    rw [List.drop_append_of_le_length (by simp [leN_length, noughts_length]; omega), List.drop_eq_nil_of_le (by simp [leN_length, noughts_length]; omega), List.nil_append]
  have eD : ∀ j, (sealN st kd d).drop (6 + j) = (kd :: d.length :: (d ++ noughts (50 - d.length)) ++ leN st 6).drop j := by
    intro j
    unfold sealN
    rw [List.append_assoc, List.drop_append, leN_length, List.drop_eq_nil_of_le (by rw [leN_length]; omega), List.nil_append]
    congr 1
    omega
  have g6 : (sealN st kd d).getD 6 0 = kd := by
    unfold sealN
    simp [List.getD_eq_getElem?_getD, leN_length]
  have g7 : (sealN st kd d).getD 7 0 = d.length := by
    have h := congrArg List.head? (eD 1)
    rw [List.head?_drop] at h
    simp at h
    simp [List.getD_eq_getElem?_getD, h]
  have e8 : ((sealN st kd d).drop 8).take d.length = d := by
    rw [show 8 = 6 + 2 from rfl, eD]
    simp
  have ez : ((sealN st kd d).drop (8 + d.length)).take (50 - d.length) = noughts (50 - d.length) := by
    rw [show 8 + d.length = 6 + (2 + d.length) by omega, eD]
    rw [show 2 + d.length = d.length + 1 + 1 by omega]
    simp [noughts_length]
  unfold openN
  dsimp only
  rw [e6, e58, g6, g7, e8, ez, ofLE_leN 6 st (by omega)]
  rw [if_pos ⟨h1, rfl, by omega, h5, by simp [noughts]⟩]
/-- A sector of which the first t bytes became another one's. -/
def tornN (o f : List Nat) (t : Nat) : List Nat := f.take t ++ o.drop t
end Go.Proofs.Ytjmjehhmkjhalaa
