/- Numbers as rows of figures, the lowest first. -/
namespace Go.Proofs.Ytfajalhpenincaa

def Fig (ds : List Nat) : Prop := ∀ d ∈ ds, d < 10
def val : List Nat → Nat
  | [] => 0
  | d :: ds => d + 10 * val ds
theorem fig_getD {ds : List Nat} (h : Fig ds) (k : Nat) : ds.getD k 0 < 10 := by
  rw [List.getD_eq_getElem?_getD]
  rcases hk : ds[k]? with _ | x
  · decide
  · exact h x (List.mem_of_getElem? hk)
theorem fig_append {a b : List Nat} (ha : Fig a) (hb : Fig b) : Fig (a ++ b) := by
  intro d hd
  rcases List.mem_append.1 hd with h | h
  · exact ha d h
  · exact hb d h
theorem fig_one {d : Nat} (h : d < 10) : Fig [d] := by intro x hx; simp at hx; subst hx; exact h
theorem fig_nil : Fig [] := by intro x hx; cases hx
theorem fig_take {ds : List Nat} (h : Fig ds) (k : Nat) : Fig (ds.take k) := fun d hd => h d (List.mem_of_mem_take hd)
theorem val_append (a b : List Nat) : val (a ++ b) = val a + 10 ^ a.length * val b := by
  induction a with
  | nil => simp [val]
  | cons d a ih =>
    show d + 10 * val (a ++ b) = d + 10 * val a + 10 ^ (a.length + 1) * val b
    rw [ih, Nat.pow_succ, Nat.mul_add, ← Nat.mul_assoc, Nat.mul_comm 10 (10 ^ a.length), Nat.add_assoc]
theorem val_lt {ds : List Nat} (h : Fig ds) : val ds < 10 ^ ds.length := by
  induction ds with
  | nil => exact (by decide : 0 < 1)
  | cons d ds ih =>
    have h1 := ih (fun x hx => h x (by simp [hx]))
    have h2 := h d (by simp)
    show d + 10 * val ds < 10 ^ (ds.length + 1)
    rw [Nat.pow_succ]
    omega
theorem val_div {ds : List Nat} (h : Fig ds) (k : Nat) : val ds / 10 ^ k = ds.getD k 0 + 10 * (val ds / 10 ^ (k + 1)) := by
  induction ds generalizing k with
  | nil => simp [val]
  | cons d ds ih =>
    have h2 := h d (by simp)
    have hf : Fig ds := fun x hx => h x (by simp [hx])
    cases k with
    | zero =>
      show (d + 10 * val ds) / 1 = d + 10 * ((d + 10 * val ds) / 10)
      omega
    | succ k =>
      have e : ∀ j, val (d :: ds) / 10 ^ (j + 1) = val ds / 10 ^ j := by
        intro j
        show (d + 10 * val ds) / 10 ^ (j + 1) = _
        rw [Nat.pow_succ, Nat.mul_comm (10 ^ j) 10, ← Nat.div_div_eq_div_mul]
        congr 1
        omega
      rw [e, e, ih hf k]
      simp
theorem val_top {ds : List Nat} (h : Fig ds) (k : Nat) (hk : ds.length ≤ k) : val ds / 10 ^ k = 0 :=
  Nat.div_eq_of_lt (Nat.lt_of_lt_of_le (val_lt h) (Nat.pow_le_pow_right (by decide) hk))
theorem less_step {a b P : Nat} (hlt : a / P < b / P) : a < b := by
  rcases Nat.lt_or_ge a b with h | h
  · exact h
  · have := Nat.div_le_div_right (c := P) h; omega

/-- No nought at the end. -/
def Norm (ds : List Nat) : Prop := ds.getLast? ≠ some 0
theorem norm_low {ds : List Nat} (h : Norm ds) (h0 : ds ≠ []) : 10 ^ (ds.length - 1) ≤ val ds := by
  induction ds with
  | nil => exact absurd rfl h0
  | cons d ds ih =>
    cases ds with
    | nil =>
      have hd : d ≠ 0 := fun e => h (by rw [e]; rfl)
      show 1 ≤ d + 10 * val []
      simp [val]; omega
    | cons e es =>
      have h1 := ih (by unfold Norm at h ⊢; simpa using h) (by simp)
      have e1 : (d :: e :: es).length - 1 = ((e :: es).length - 1) + 1 := by simp
      rw [e1, Nat.pow_succ]
      have : val (d :: e :: es) = d + 10 * val (e :: es) := rfl
      omega
theorem norm_length {ds : List Nat} (h : Norm ds) (n : Nat) (hv : val ds < 10 ^ n) : ds.length ≤ n := by
  rcases Nat.lt_or_ge n ds.length with hl | hl
  · have h0 : ds ≠ [] := by intro e; subst e; simp at hl
    have h1 := norm_low h h0
    have h2 : 10 ^ n ≤ 10 ^ (ds.length - 1) := Nat.pow_le_pow_right (by decide) (by omega)
    omega
  · exact hl
theorem norm_zero {ds : List Nat} (h : Norm ds) (hv : val ds = 0) : ds = [] := by
  have := norm_length h 0 (by rw [hv]; decide)
  exact List.eq_nil_of_length_eq_zero (by omega)
theorem take_getD (xs : List Nat) (k : Nat) (h : k < xs.length) : xs.take (k + 1) = xs.take k ++ [xs.getD k 0] := by
  rw [List.take_succ_eq_append_getElem h]
  simp [List.getD_eq_getElem?_getD, h]
theorem val_take_zero (ds : List Nat) (k : Nat) (h : k < ds.length) (h0 : ds.getD k 0 = 0) : val (ds.take (k + 1)) = val (ds.take k) := by
  rw [take_getD ds k h, h0, val_append]
  simp [val]
theorem norm_take {ds : List Nat} (k : Nat) (h : k < ds.length) (h0 : ds.getD k 0 ≠ 0) : Norm (ds.take (k + 1)) := by
  unfold Norm
  rw [take_getD ds k h, List.getLast?_append]
  simpa using h0

/-- One figure more of a sum. -/
theorem sum_step {V P c x y A B S A' B' : Nat} (h : V + P * (c + A + B) = S) (hA : A = x + 10 * A') (hB : B = y + 10 * B') :
    V + P * ((x + y + c) % 10) + P * 10 * ((x + y + c) / 10 + A' + B') = S := by
  rw [← h, hA, hB, Nat.mul_assoc, Nat.add_assoc, ← Nat.mul_add]
  congr 2
  omega
/-- One figure more of what is left. -/
theorem rest_step {V P c x y A B S T A' B' d c' : Nat} (h : V + P * A + S = T + P * (B + c)) (hA : A = x + 10 * A') (hB : B = y + 10 * B') (hd : d + y + c = x + 10 * c') :
    V + P * d + P * 10 * A' + S = T + P * 10 * (B' + c') := by
  subst hA hB
  have h2 : P * (d + y + c) = P * (x + 10 * c') := by rw [hd]
  simp only [Nat.mul_add, Nat.mul_assoc, Nat.mul_left_comm P 10] at h h2 ⊢
  omega
theorem rest_end {V P S T c : Nat} (h : V + S = T + P * c) (hV : V < P) (hle : S ≤ T) : V = T - S := by
  rcases Nat.eq_zero_or_pos c with h0 | h0
  · subst h0; omega
  · have : P ≤ P * c := Nat.le_mul_of_pos_right P h0
    omega
end Go.Proofs.Ytfajalhpenincaa
