/- ZP: put together. -/

/- TPure, TSet, TDrop, TFill, TDropS, TTop, TMore: put together. -/

/- A tree of numbered items, by its depth; what it is as a list; a set. Pure. -/
namespace Go.Proofs.Ytejpjbmbcdgomaa

structure It (α : Type) where
  k : Int
  c : α
/-- A tree whose leaves lie d levels below. -/
def Tr (α : Type) : Nat → Type
  | 0 => List (It α)
  | d + 1 => List (It α) × List (Tr α d)
section
variable {α : Type}
def its : (d : Nat) → Tr α d → List (It α)
  | 0, l => l
  | _ + 1, t => t.1
/-- Items with lists between them. -/
def weave : List (It α) → List (List (It α)) → List (It α)
  | [], b :: _ => b
  | x :: is, b :: bs => b ++ x :: weave is bs
  | _, [] => []
def flat : (d : Nat) → Tr α d → List (It α)
  | 0, l => l
  | d + 1, t => weave t.1 (t.2.map (flat d))
def preP : List (It α) → List (List (It α)) → List (It α)
  | x :: is, b :: bs => b ++ x :: preP is bs
  | _, _ => []
def postQ : List (It α) → List (List (It α)) → List (It α)
  | x :: is, b :: bs => x :: (b ++ postQ is bs)
  | _, _ => []
theorem weave_head : ∀ (is : List (It α)) (b : List (It α)) (bs : List (List (It α))), is.length = bs.length → weave is (b :: bs) = b ++ postQ is bs
  | [], b, bs, h => by
    have : bs = [] := List.eq_nil_of_length_eq_zero h.symm
    subst this
    simp [weave, postQ]
  | x :: is, b, [], h => by simp at h
  | x :: is, b, b2 :: bs, h => by
    rw [weave, weave_head is b2 bs (by simpa using h), postQ]
theorem weave_split : ∀ (is1 : List (It α)) (bs1 : List (List (It α))) (is2 : List (It α)) (b : List (It α)) (bs2 : List (List (It α))), is1.length = bs1.length → is2.length = bs2.length → weave (is1 ++ is2) (bs1 ++ b :: bs2) = preP is1 bs1 ++ (b ++ postQ is2 bs2)
  | [], [], is2, b, bs2, _, h2 => by simpa [preP] using weave_head is2 b bs2 h2
  | [], _ :: _, _, _, _, h, _ => by simp at h
  | _ :: _, [], _, _, _, h, _ => by simp at h
  | x :: is1, b1 :: bs1, is2, b, bs2, h, h2 => by
    rw [List.cons_append, List.cons_append, weave, weave_split is1 bs1 is2 b bs2 (by simpa using h) h2, preP]
    simp
/-- Rising. -/
def Up (l : List (It α)) : Prop := l.Pairwise fun a b => a.k < b.k
/-- How many come ahead of a number. -/
def place (l : List (It α)) (k : Int) : Nat := l.countP fun x => decide (x.k < k)
theorem place_le (l : List (It α)) (k : Int) : place l k ≤ l.length := List.countP_le_length
theorem place_take : ∀ (l : List (It α)) (k : Int), Up l → (∀ x ∈ l.take (place l k), x.k < k) ∧ ∀ x ∈ l.drop (place l k), k ≤ x.k
  | [], k, _ => ⟨fun x h => by simp at h, fun x h => by simp at h⟩
  | y :: l, k, h => by
    have hl := (List.pairwise_cons.1 h)
    unfold place
    rw [List.countP_cons]
    by_cases hy : y.k < k
    · rw [if_pos (by simpa using hy), List.take_succ_cons, List.drop_succ_cons]
      obtain ⟨h1, h2⟩ := place_take l k hl.2
      refine ⟨fun x hx => ?_, h2⟩
      rcases List.mem_cons.1 hx with e | e
      · rw [e]; exact hy
      · exact h1 x e
    · rw [if_neg (by simpa using hy)]
      have h0 : l.countP (fun x => decide (x.k < k)) = 0 := by
        rw [List.countP_eq_zero]
        intro x hx
        have := hl.1 x hx
        simp; omega
      rw [h0]
      refine ⟨fun x hx => by simp at hx, fun x hx => ?_⟩
      rcases List.mem_cons.1 (by simpa using hx) with e | e
      · rw [e]; omega
      · have := hl.1 x e; omega
/-- The list with an item. -/
def ins (x : It α) (l : List (It α)) : List (It α) := l.filter (fun y => decide (y.k < x.k)) ++ x :: l.filter (fun y => decide (x.k < y.k))
/-- The list without a number. -/
def del (k : Int) (l : List (It α)) : List (It α) := l.filter fun y => decide (y.k ≠ k)
def getC (k : Int) (l : List (It α)) : Option α := (l.find? fun y => decide (y.k = k)).map It.c
theorem filter_all {p : It α → Bool} {l : List (It α)} (h : ∀ x ∈ l, p x = true) : l.filter p = l := List.filter_eq_self.2 h
theorem filter_none {p : It α → Bool} {l : List (It α)} (h : ∀ x ∈ l, p x = false) : l.filter p = [] := List.filter_eq_nil_iff.2 fun x hx => by rw [h x hx]; decide
theorem ins_mid (x : It α) (a m b : List (It α)) (ha : ∀ y ∈ a, y.k < x.k) (hb : ∀ y ∈ b, x.k < y.k) : ins x (a ++ (m ++ b)) = a ++ (ins x m ++ b) := by
  unfold ins
  have a1 : a.filter (fun y => decide (y.k < x.k)) = a := filter_all fun y hy => decide_eq_true (ha y hy)
  have a2 : a.filter (fun y => decide (x.k < y.k)) = [] := filter_none fun y hy => decide_eq_false (by have := ha y hy; omega)
  have b1 : b.filter (fun y => decide (y.k < x.k)) = [] := filter_none fun y hy => decide_eq_false (by have := hb y hy; omega)
  have b2 : b.filter (fun y => decide (x.k < y.k)) = b := filter_all fun y hy => decide_eq_true (hb y hy)
  simp only [List.filter_append, a1, a2, b1, b2]
  simp
theorem getC_mid (k : Int) (a m b : List (It α)) (ha : ∀ y ∈ a, y.k ≠ k) (hb : ∀ y ∈ b, y.k ≠ k) : getC k (a ++ (m ++ b)) = getC k m := by
  unfold getC
  have a1 : a.find? (fun y => decide (y.k = k)) = none := List.find?_eq_none.2 fun y hy => by simpa using ha y hy
  have b1 : b.find? (fun y => decide (y.k = k)) = none := List.find?_eq_none.2 fun y hy => by simpa using hb y hy
  rw [List.find?_append, List.find?_append, a1, b1]
  simp
end
end Go.Proofs.Ytejpjbmbcdgomaa

/- A tree: a set. Pure. -/
namespace Go.Proofs.Ytejpjbmbcdgomaa
section
variable {α : Type}
theorem preP_lt (k : Int) : ∀ (is : List (It α)) (bs : List (List (It α))), is.length = bs.length → Up (preP is bs) → (∀ x ∈ is, x.k < k) → ∀ y ∈ preP is bs, y.k < k
  | [], _, _, _, _, y, hy => by simp [preP] at hy
  | _ :: _, [], h, _, _, _, _ => by simp at h
  | x :: is, b :: bs, h, hu, hk, y, hy => by
    rw [preP] at hu hy
    unfold Up at hu
    obtain ⟨_, h2, h3⟩ := List.pairwise_append.1 hu
    obtain ⟨_, h5⟩ := List.pairwise_cons.1 h2
    rcases List.mem_append.1 hy with e | e
    · have := h3 y e x (by simp); have := hk x (by simp); omega
    · rcases List.mem_cons.1 e with e | e
      · rw [e]; exact hk x (by simp)
      · exact preP_lt k is bs (by simpa using h) h5 (fun z hz => hk z (List.mem_cons_of_mem _ hz)) y e
theorem postQ_gt (k : Int) : ∀ (is : List (It α)) (bs : List (List (It α))), is.length = bs.length → Up (postQ is bs) → (∀ x ∈ is, k < x.k) → ∀ y ∈ postQ is bs, k < y.k
  | [], _, _, _, _, y, hy => by simp [postQ] at hy
  | _ :: _, [], h, _, _, _, _ => by simp at h
  | x :: is, b :: bs, h, hu, hk, y, hy => by
    rw [postQ] at hu hy
    unfold Up at hu
    obtain ⟨h1, h2⟩ := List.pairwise_cons.1 hu
    obtain ⟨_, h5, _⟩ := List.pairwise_append.1 h2
    have hx := hk x (by simp)
    rcases List.mem_cons.1 hy with e | e
    · rw [e]; exact hx
    · rcases List.mem_append.1 e with e | e
      · have := h1 y (List.mem_append_left _ e); omega
      · exact postQ_gt k is bs (by simpa using h) h5 (fun z hz => hk z (List.mem_cons_of_mem _ hz)) y e
theorem weave_sub : ∀ (is : List (It α)) (bs : List (List (It α))), bs.length = is.length + 1 → is.Sublist (weave is bs)
  | [], _, _ => List.nil_sublist _
  | _ :: _, [], h => by simp at h
  | x :: is, b :: bs, h => by
    rw [weave]
    exact ((weave_sub is bs (by simpa using h)).cons_cons x).trans (List.sublist_append_right _ _)
theorem Up.sub {l m : List (It α)} (h : Up m) (hs : l.Sublist m) : Up l := h.sublist hs
theorem ins_at (x y : It α) (a b : List (It α)) (hy : y.k = x.k) (ha : ∀ z ∈ a, z.k < x.k) (hb : ∀ z ∈ b, x.k < z.k) : ins x (a ++ y :: b) = a ++ x :: b := by
  have h := ins_mid x a [y] b ha hb
  rw [List.singleton_append] at h
  rw [h]
  unfold ins
  rw [List.filter_cons_of_neg (by simp; omega), List.filter_cons_of_neg (by simp; omega)]
  simp
theorem getC_at (y : It α) (a b : List (It α)) (k : Int) (hy : y.k = k) (ha : ∀ z ∈ a, z.k ≠ k) : getC k (a ++ y :: b) = some y.c := by
  unfold getC
  have a1 : a.find? (fun y => decide (y.k = k)) = none := List.find?_eq_none.2 fun y hy => by simpa using ha y hy
  rw [List.find?_append, a1, List.find?_cons_of_pos (by simpa using hy)]
  rfl
theorem ins_new (x : It α) (a b : List (It α)) (ha : ∀ z ∈ a, z.k < x.k) (hb : ∀ z ∈ b, x.k < z.k) : ins x (a ++ b) = a ++ x :: b := by
  have h := ins_mid x a [] b ha hb
  simpa [ins] using h
theorem getC_none (k : Int) (l : List (It α)) (h : ∀ z ∈ l, z.k ≠ k) : getC k l = none := by
  unfold getC
  rw [List.find?_eq_none.2 fun y hy => by simpa using h y hy]
  rfl
/-- The place of a number: what lies ahead and behind. -/
theorem place_cut {l : List (It α)} (h : Up l) (k : Int) : ∃ a b, l = a ++ b ∧ a.length = place l k ∧ (∀ x ∈ a, x.k < k) ∧ ((∃ y b', b = y :: b' ∧ y.k = k ∧ ∀ x ∈ b', k < x.k) ∨ ((∀ y, b.head? = some y → y.k ≠ k) ∧ ∀ x ∈ b, k < x.k)) := by
  obtain ⟨h1, h2⟩ := place_take l k h
  refine ⟨l.take (place l k), l.drop (place l k), (List.take_append_drop _ _).symm, by rw [List.length_take]; exact Nat.min_eq_left (place_le l k), h1, ?_⟩
  have hu : Up (l.drop (place l k)) := h.sub (List.drop_sublist _ _)
  generalize l.drop (place l k) = b at h2 hu
  cases b with
  | nil => exact .inr ⟨fun y hy => by simp at hy, fun x hx => by simp at hx⟩
  | cons y b =>
    obtain ⟨h5, _⟩ := List.pairwise_cons.1 hu
    by_cases e : y.k = k
    · exact .inl ⟨y, b, rfl, e, fun x hx => by have := h5 x hx; omega⟩
    · have hy := h2 y (by simp)
      refine .inr ⟨fun z hz => by simp at hz; rw [← hz]; exact e, fun x hx => ?_⟩
      rcases List.mem_cons.1 hx with e2 | e2
      · rw [e2]; omega
      · have := h5 x e2; omega
def foundAt (l : List (It α)) (k : Int) : Option (It α) := match l[place l k]? with
  | some y => if y.k = k then some y else none
  | none => none
theorem found_yes {l a b' : List (It α)} {y : It α} {k : Int} (hl : l = a ++ y :: b') (ha : a.length = place l k) (hy : y.k = k) : foundAt l k = some y := by
  have h : l[place l k]? = some y := by rw [← ha, hl, List.getElem?_append_right (Nat.le_refl _), Nat.sub_self]; rfl
  unfold foundAt
  rw [h]
  simp [hy]
theorem found_no {l a b : List (It α)} {k : Int} (hl : l = a ++ b) (ha : a.length = place l k) (hb : ∀ y, b.head? = some y → y.k ≠ k) : foundAt l k = none := by
  have h : l[place l k]? = b.head? := by
    rw [← ha, hl, List.getElem?_append_right (Nat.le_refl _), Nat.sub_self]
    cases b <;> rfl
  unfold foundAt
  rw [h]
  cases hq : b.head? with
  | none => rfl
  | some y => simp [hb y hq]
def insAt (l : List (It α)) (i : Nat) (x : It α) : List (It α) := l.take i ++ x :: l.drop i
theorem insAt_cut {l a b : List (It α)} {i : Nat} (hl : l = a ++ b) (ha : a.length = i) (x : It α) : insAt l i x = a ++ x :: b := by
  unfold insAt
  subst hl ha
  simp
/-- One too many is made two, with the middle one between. -/
def splitT (x0 : It α) : (d : Nat) → Tr α d → Tr α d × It α × Tr α d
  | 0, l => match l.drop (l.length / 2) with
    | m :: r => (l.take (l.length / 2), m, r)
    | [] => (l, x0, ([] : List (It α)))
  | _ + 1, t => match t.1.drop (t.1.length / 2) with
    | m :: r => ((t.1.take (t.1.length / 2), t.2.take (t.1.length / 2 + 1)), m, (r, t.2.drop (t.1.length / 2 + 1)))
    | [] => (t, x0, ([], []))
def setT : (d : Nat) → Tr α d → It α → Tr α d × Option α
  | 0, l, x => match foundAt l x.k with
    | some y => (l.set (place l x.k) x, some y.c)
    | none => (insAt l (place l x.k) x, none)
  | d + 1, t, x => match foundAt t.1 x.k with
    | some y => ((t.1.set (place t.1 x.k) x, t.2), some y.c)
    | none => match t.2[place t.1 x.k]? with
      | none => (t, none)
      | some b => if 5 < (its d (setT d b x).1).length then
          ((insAt t.1 (place t.1 x.k) (splitT x d (setT d b x).1).2.1, t.2.take (place t.1 x.k) ++ (splitT x d (setT d b x).1).1 :: (splitT x d (setT d b x).1).2.2 :: t.2.drop (place t.1 x.k + 1)), (setT d b x).2)
        else ((t.1, t.2.set (place t.1 x.k) (setT d b x).1), (setT d b x).2)
/-- The nodes below are as told. -/
def Ok : (d : Nat) → Tr α d → Prop
  | 0, _ => True
  | d + 1, t => t.2.length = t.1.length + 1 ∧ ∀ b ∈ t.2, Ok d b ∧ 2 ≤ (its d b).length ∧ (its d b).length ≤ 5
/-- A node of six made two. -/
theorem split_spec (x0 : It α) : ∀ (d : Nat) (t : Tr α d), Ok d t → (its d t).length = 6 → flat d (splitT x0 d t).1 ++ (splitT x0 d t).2.1 :: flat d (splitT x0 d t).2.2 = flat d t ∧ Ok d (splitT x0 d t).1 ∧ Ok d (splitT x0 d t).2.2 ∧ (its d (splitT x0 d t).1).length = 3 ∧ (its d (splitT x0 d t).2.2).length = 2
  | 0, l, _, h6 => by
    have h6' : List.length (α := It α) l = 6 := h6
    obtain ⟨a, b, c, e, f, g, rfl⟩ : ∃ a b c e f g : It α, l = [a, b, c, e, f, g] := by
      match l, h6' with
      | [a, b, c, e, f, g], _ => exact ⟨a, b, c, e, f, g, rfl⟩
    refine ⟨by simp [splitT, flat], trivial, trivial, by simp [splitT, its], by simp [splitT, its]⟩
  | d + 1, (is, bs), ⟨hl, hb⟩, h6 => by
    have h6' : is.length = 6 := h6
    have h7 : bs.length = 7 := by rw [hl]; show is.length + 1 = 7; omega
    obtain ⟨a, b, c, e, f, g, rfl⟩ : ∃ a b c e f g : It α, is = [a, b, c, e, f, g] := by
      match is, h6' with
      | [a, b, c, e, f, g], _ => exact ⟨a, b, c, e, f, g, rfl⟩
    obtain ⟨t1, t2, t3, t4, t5, t6, t7, rfl⟩ : ∃ t1 t2 t3 t4 t5 t6 t7 : Tr α d, bs = [t1, t2, t3, t4, t5, t6, t7] := by
      match bs, h7 with
      | [t1, t2, t3, t4, t5, t6, t7], _ => exact ⟨t1, t2, t3, t4, t5, t6, t7, rfl⟩
    refine ⟨?_, ⟨by simp [splitT], fun z hz => hb z ?_⟩, ⟨by simp [splitT], fun z hz => hb z ?_⟩, by simp [splitT, its], by simp [splitT, its]⟩
    · simp [splitT, flat, weave]
    · have hz' : z ∈ [t1, t2, t3, t4] := by simpa [splitT] using hz
      simp at hz' ⊢
      rcases hz' with h | h | h | h <;> simp [h]
    · have hz' : z ∈ [t5, t6, t7] := by simpa [splitT] using hz
      simp at hz' ⊢
      rcases hz' with h | h | h <;> simp [h]
theorem ok_its {d : Nat} {t : Tr α (d + 1)} (h : Ok (d + 1) t) : (t.2.map (flat d)).length = t.1.length + 1 := by rw [List.length_map]; exact h.1
theorem flat_node {d : Nat} {a b : List (It α)} {bs1 bs2 : List (Tr α d)} {m : Tr α d} (h1 : a.length = bs1.length) (h2 : b.length = bs2.length) : flat (d + 1) ((a ++ b, bs1 ++ m :: bs2) : Tr α (d + 1)) = preP a (bs1.map (flat d)) ++ (flat d m ++ postQ b (bs2.map (flat d))) := by
  show weave (a ++ b) ((bs1 ++ m :: bs2).map (flat d)) = _
  rw [List.map_append, List.map_cons, weave_split a _ b _ _ (by rw [List.length_map]; exact h1) (by rw [List.length_map]; exact h2)]
/-- A node cut at a place. -/
theorem node_cut {d : Nat} {t : Tr α (d + 1)} (h : Ok (d + 1) t) {a b : List (It α)} (he : t.1 = a ++ b) : ∃ (bs1 : List (Tr α d)) (m : Tr α d) (bs2 : List (Tr α d)), t = ((a ++ b, bs1 ++ m :: bs2) : Tr α (d + 1)) ∧ a.length = bs1.length ∧ b.length = bs2.length := by
  obtain ⟨is, bs⟩ := t
  have hl : bs.length = is.length + 1 := h.1
  have he : is = a ++ b := he
  subst he
  rw [List.length_append] at hl
  obtain ⟨bs1, r, rfl, h1⟩ : ∃ bs1 r, bs = bs1 ++ r ∧ a.length = bs1.length := ⟨bs.take a.length, bs.drop a.length, (List.take_append_drop _ _).symm, by rw [List.length_take]; omega⟩
  rw [List.length_append] at hl
  cases r with
  | nil => simp at hl; omega
  | cons m bs2 => exact ⟨bs1, m, bs2, rfl, h1, by simp at hl; omega⟩
/-- What a set makes of a tree. -/
theorem set_spec (x : It α) : ∀ (d : Nat) (t : Tr α d), Ok d t → Up (flat d t) → (its d t).length ≤ 5 →
    flat d (setT d t x).1 = ins x (flat d t) ∧ (setT d t x).2 = getC x.k (flat d t) ∧ Ok d (setT d t x).1 ∧ (its d t).length ≤ (its d (setT d t x).1).length ∧ (its d (setT d t x).1).length ≤ (its d t).length + 1
  | 0, l, _, hu, _ => by
    have hu' : Up (α := α) l := hu
    obtain ⟨a, b, hl, ha, h1, h2⟩ := place_cut hu' x.k
    rcases h2 with ⟨y, b', rfl, hy, h3⟩ | ⟨h3, h4⟩
    · have hf := found_yes hl ha hy
      have e : setT 0 l x = ((List.set (α := It α) l (place l x.k) x : List (It α)), some y.c) := by simp only [setT, hf]; rfl
      have e2 : List.set (α := It α) l (place l x.k) x = a ++ x :: b' := by
        rw [← ha, hl, List.set_append_right _ _ (Nat.le_refl _), Nat.sub_self]; rfl
      rw [e, e2]
      refine ⟨?_, ?_, trivial, ?_, ?_⟩
      · show a ++ x :: b' = ins x l
        rw [hl, ins_at x y a b' hy h1 h3]
      · show some y.c = getC x.k l
        rw [hl, getC_at y a b' x.k hy (fun z hz => by have := h1 z hz; omega)]
      · show List.length (α := It α) l ≤ (a ++ x :: b').length
        rw [hl]; simp
      · show (a ++ x :: b').length ≤ List.length (α := It α) l + 1
        rw [hl]; simp
    · have hf := found_no hl ha h3
      have e : setT 0 l x = ((insAt (α := α) l (place l x.k) x : List (It α)), none) := by simp only [setT, hf]; rfl
      rw [e, insAt_cut hl ha]
      refine ⟨?_, ?_, trivial, ?_, ?_⟩
      · show a ++ x :: b = ins x l
        rw [hl, ins_new x a b h1 h4]
      · show none = getC x.k l
        rw [hl, getC_none]
        intro z hz
        rcases List.mem_append.1 hz with e | e
        · have := h1 z e; omega
        · have := h4 z e; omega
      · show List.length (α := It α) l ≤ (a ++ x :: b).length
        rw [hl]; simp
      · show (a ++ x :: b).length ≤ List.length (α := It α) l + 1
        rw [hl]; simp; omega
  | d + 1, t, hok, hu, h5 => by
    have hui : Up t.1 := hu.sub (weave_sub t.1 (t.2.map (flat d)) (ok_its hok))
    obtain ⟨a, b, hl, ha, h1, h2⟩ := place_cut hui x.k
    obtain ⟨bs1, m, bs2, rfl, hb1, hb2⟩ := node_cut hok hl
    have hfl := flat_node (d := d) (a := a) (b := b) (m := m) hb1 hb2
    rw [hfl] at hu
    obtain ⟨u1, u2, u3⟩ := List.pairwise_append.1 hu
    obtain ⟨u4, u5, u6⟩ := List.pairwise_append.1 u2
    have hp := preP_lt x.k a (bs1.map (flat d)) (by rw [List.length_map]; exact hb1) u1 h1
    have hpl : place (a ++ b) x.k = a.length := ha.symm
    have hmo : Ok d m ∧ 2 ≤ (its d m).length ∧ (its d m).length ≤ 5 := hok.2 m (by show m ∈ bs1 ++ m :: bs2; simp)
    rcases h2 with ⟨y, b', rfl, hy, h3⟩ | ⟨h3, h4⟩
    · have hf := found_yes (l := a ++ y :: b') rfl ha hy
      have e : setT (d + 1) ((a ++ y :: b', bs1 ++ m :: bs2) : Tr α (d + 1)) x = (((a ++ y :: b').set (place (a ++ y :: b') x.k) x, bs1 ++ m :: bs2), some y.c) := by simp only [setT, hf]; rfl
      have e2 : (a ++ y :: b').set (place (a ++ y :: b') x.k) x = a ++ x :: b' := by
        rw [hpl, List.set_append_right _ _ (Nat.le_refl _), Nat.sub_self]; rfl
      rw [e, e2]
      obtain ⟨m2, bs3, rfl⟩ : ∃ m2 bs3, bs2 = m2 :: bs3 := by
        cases bs2 with
        | nil => simp at hb2
        | cons m2 bs3 => exact ⟨m2, bs3, rfl⟩
      have hq : postQ (y :: b') ((m2 :: bs3).map (flat d)) = y :: (flat d m2 ++ postQ b' (bs3.map (flat d))) := rfl
      have hq2 : postQ (x :: b') ((m2 :: bs3).map (flat d)) = x :: (flat d m2 ++ postQ b' (bs3.map (flat d))) := rfl
      rw [hq] at u5 u6 hfl
      obtain ⟨u7, _⟩ := List.pairwise_cons.1 u5
      have hA : ∀ z ∈ preP a (bs1.map (flat d)) ++ flat d m, z.k < x.k := fun z hz => by
        rcases List.mem_append.1 hz with e | e
        · exact hp z e
        · have := u6 z e y (by simp); omega
      have hB : ∀ z ∈ flat d m2 ++ postQ b' (bs3.map (flat d)), x.k < z.k := fun z hz => by have := u7 z hz; omega
      have hfx := flat_node (d := d) (a := a) (b := x :: b') (m := m) (bs2 := m2 :: bs3) hb1 (by simpa using hb2)
      rw [hq2] at hfx
      refine ⟨?_, ?_, ⟨?_, hok.2⟩, ?_, ?_⟩
      · show flat (d + 1) ((a ++ x :: b', bs1 ++ m :: m2 :: bs3) : Tr α (d + 1)) = _
        rw [hfx, hfl, ← List.append_assoc, ← List.append_assoc, ins_at x y _ _ hy hA hB]
      · show some y.c = _
        rw [hfl, ← List.append_assoc, getC_at y _ _ x.k hy (fun z hz => by have := hA z hz; omega)]
      · have := hok.1
        simp at this ⊢
        omega
      · show (a ++ y :: b').length ≤ (a ++ x :: b').length
        simp
      · show (a ++ x :: b').length ≤ (a ++ y :: b').length + 1
        simp
    · have hf := found_no (l := a ++ b) rfl ha h3
      have hB := postQ_gt x.k b (bs2.map (flat d)) (by rw [List.length_map]; exact hb2) u5 h4
      obtain ⟨i1, i2, i3, i4, i5⟩ := set_spec x d m hmo.1 u4 hmo.2.2
      have hg : (bs1 ++ m :: bs2)[place (a ++ b) x.k]? = some m := by
        rw [hpl, hb1, List.getElem?_append_right (Nat.le_refl _), Nat.sub_self]; rfl
      have hins : ins x (flat (d + 1) ((a ++ b, bs1 ++ m :: bs2) : Tr α (d + 1))) = preP a (bs1.map (flat d)) ++ (flat d (setT d m x).1 ++ postQ b (bs2.map (flat d))) := by
        rw [hfl, ins_mid x _ _ _ hp hB, i1]
      have hget : getC x.k (flat (d + 1) ((a ++ b, bs1 ++ m :: bs2) : Tr α (d + 1))) = (setT d m x).2 := by
        rw [hfl, getC_mid x.k _ _ _ (fun z hz => by have := hp z hz; omega) (fun z hz => by have := hB z hz; omega), i2]
      rw [hins, hget]
      by_cases h6 : 5 < (its d (setT d m x).1).length
      · have e : setT (d + 1) ((a ++ b, bs1 ++ m :: bs2) : Tr α (d + 1)) x = ((insAt (a ++ b) (place (a ++ b) x.k) (splitT x d (setT d m x).1).2.1, (bs1 ++ m :: bs2).take (place (a ++ b) x.k) ++ (splitT x d (setT d m x).1).1 :: (splitT x d (setT d m x).1).2.2 :: (bs1 ++ m :: bs2).drop (place (a ++ b) x.k + 1)), (setT d m x).2) := by simp only [setT, hf, hg, h6, if_true]; rfl
        have e3 : (bs1 ++ m :: bs2).take (place (a ++ b) x.k) = bs1 := by rw [hpl, hb1]; simp
        have e4 : (bs1 ++ m :: bs2).drop (place (a ++ b) x.k + 1) = bs2 := by rw [hpl, hb1]; simp
        obtain ⟨s1, s2, s3, s4, s5⟩ := split_spec x d (setT d m x).1 i3 (by omega)
        rw [e, e3, e4, insAt_cut rfl ha]
        generalize splitT x d (setT d m x).1 = sp at s1 s2 s3 s4 s5
        obtain ⟨p1, pm, p2⟩ := sp
        dsimp only at s1 s2 s3 s4 s5
        have hfx := flat_node (d := d) (a := a) (b := pm :: b) (m := p1) (bs1 := bs1) (bs2 := p2 :: bs2) hb1 (by simpa using hb2)
        have hq : postQ (pm :: b) ((p2 :: bs2).map (flat d)) = pm :: (flat d p2 ++ postQ b (bs2.map (flat d))) := rfl
        refine ⟨?_, rfl, ⟨?_, fun z hz => ?_⟩, ?_, ?_⟩
        · show flat (d + 1) ((a ++ pm :: b, bs1 ++ p1 :: p2 :: bs2) : Tr α (d + 1)) = _
          rw [hfx, hq, ← s1]
          simp
        · show (bs1 ++ p1 :: p2 :: bs2).length = (a ++ pm :: b).length + 1
          simp; omega
        · have hz' : z ∈ bs1 ++ p1 :: p2 :: bs2 := hz
          rcases List.mem_append.1 hz' with e1 | e1
          · exact hok.2 z (by show z ∈ bs1 ++ m :: bs2; exact List.mem_append_left _ e1)
          · rcases List.mem_cons.1 e1 with e1 | e1
            · subst e1; exact ⟨s2, by omega, by omega⟩
            · rcases List.mem_cons.1 e1 with e1 | e1
              · subst e1; exact ⟨s3, by omega, by omega⟩
              · exact hok.2 z (by show z ∈ bs1 ++ m :: bs2; exact List.mem_append_right _ (List.mem_cons_of_mem _ e1))
        · show (a ++ b).length ≤ (a ++ pm :: b).length
          simp
        · show (a ++ pm :: b).length ≤ (a ++ b).length + 1
          simp; omega
      · have e : setT (d + 1) ((a ++ b, bs1 ++ m :: bs2) : Tr α (d + 1)) x = ((a ++ b, (bs1 ++ m :: bs2).set (place (a ++ b) x.k) (setT d m x).1), (setT d m x).2) := by simp only [setT, hf, hg, h6, if_false]; rfl
        have e3 : (bs1 ++ m :: bs2).set (place (a ++ b) x.k) (setT d m x).1 = bs1 ++ (setT d m x).1 :: bs2 := by
          rw [hpl, hb1, List.set_append_right _ _ (Nat.le_refl _), Nat.sub_self]; rfl
        rw [e, e3]
        refine ⟨?_, rfl, ⟨?_, fun z hz => ?_⟩, Nat.le_refl _, Nat.le_succ _⟩
        · exact flat_node hb1 hb2
        · show (bs1 ++ (setT d m x).1 :: bs2).length = (a ++ b).length + 1
          simp; omega
        · have hz' : z ∈ bs1 ++ (setT d m x).1 :: bs2 := hz
          rcases List.mem_append.1 hz' with e1 | e1
          · exact hok.2 z (by show z ∈ bs1 ++ m :: bs2; exact List.mem_append_left _ e1)
          · rcases List.mem_cons.1 e1 with e1 | e1
            · subst e1; exact ⟨i3, by omega, by omega⟩
            · exact hok.2 z (by show z ∈ bs1 ++ m :: bs2; exact List.mem_append_right _ (List.mem_cons_of_mem _ e1))
end
end Go.Proofs.Ytejpjbmbcdgomaa

/- A tree: a number dropped. Pure. -/
namespace Go.Proofs.Ytejpjbmbcdgomaa
section
variable {α : Type}
def emptyT : (d : Nat) → Tr α d
  | 0 => ([] : List (It α))
  | _ + 1 => ([], [])
def fromL (x0 : It α) : (d : Nat) → Tr α d → It α → Tr α d → Tr α d × It α × Tr α d
  | 0, l, x, t => ((List.dropLast (α := It α) l : List (It α)), List.getLastD (α := It α) l x0, (x :: t : List (It α)))
  | d + 1, l, x, t => ((l.1.dropLast, l.2.dropLast), l.1.getLastD x0, (x :: t.1, l.2.getLastD (emptyT d) :: t.2))
def fromR (x0 : It α) : (d : Nat) → Tr α d → It α → Tr α d → Tr α d × It α × Tr α d
  | 0, t, x, r => (List.append (α := It α) t [x], List.headD (α := It α) r x0, (List.tail (α := It α) r : List (It α)))
  | d + 1, t, x, r => ((t.1 ++ [x], t.2 ++ [r.2.headD (emptyT d)]), r.1.headD x0, (r.1.tail, r.2.tail))
def mergeT : (d : Nat) → Tr α d → It α → Tr α d → Tr α d
  | 0, l, x, r => List.append (α := It α) l (x :: r)
  | _ + 1, l, x, r => (l.1 ++ [x] ++ r.1, l.2 ++ r.2)
end
end Go.Proofs.Ytejpjbmbcdgomaa

/- A tree: a node below filled, a number dropped. Pure. -/
namespace Go.Proofs.Ytejpjbmbcdgomaa
section
variable {α : Type}
theorem set_mid {β : Type} (p q : List β) (y z : β) (i : Nat) (h : p.length = i) : (p ++ y :: q).set i z = p ++ z :: q := by
  subst h
  rw [List.set_append_right _ _ (Nat.le_refl _), Nat.sub_self]
  rfl
def fillT (x0 : It α) (d : Nat) (is : List (It α)) (bs : List (Tr α d)) (i : Nat) : List (It α) × List (Tr α d) :=
  if 2 ≤ (its d (bs.getD i (emptyT d))).length then (is, bs)
  else if 0 < i ∧ 2 < (its d (bs.getD (i - 1) (emptyT d))).length then
    (is.set (i - 1) (fromL x0 d (bs.getD (i - 1) (emptyT d)) (is.getD (i - 1) x0) (bs.getD i (emptyT d))).2.1,
      (bs.set (i - 1) (fromL x0 d (bs.getD (i - 1) (emptyT d)) (is.getD (i - 1) x0) (bs.getD i (emptyT d))).1).set i (fromL x0 d (bs.getD (i - 1) (emptyT d)) (is.getD (i - 1) x0) (bs.getD i (emptyT d))).2.2)
  else if i < is.length ∧ 2 < (its d (bs.getD (i + 1) (emptyT d))).length then
    (is.set i (fromR x0 d (bs.getD i (emptyT d)) (is.getD i x0) (bs.getD (i + 1) (emptyT d))).2.1,
      (bs.set i (fromR x0 d (bs.getD i (emptyT d)) (is.getD i x0) (bs.getD (i + 1) (emptyT d))).1).set (i + 1) (fromR x0 d (bs.getD i (emptyT d)) (is.getD i x0) (bs.getD (i + 1) (emptyT d))).2.2)
  else if 0 < i then (is.eraseIdx (i - 1), (bs.set (i - 1) (mergeT d (bs.getD (i - 1) (emptyT d)) (is.getD (i - 1) x0) (bs.getD i (emptyT d)))).eraseIdx i)
  else (is.eraseIdx i, (bs.set i (mergeT d (bs.getD i (emptyT d)) (is.getD i x0) (bs.getD (i + 1) (emptyT d)))).eraseIdx (i + 1))
def Fine (d : Nat) (z : Tr α d) : Prop := Ok d z ∧ 2 ≤ (its d z).length ∧ (its d z).length ≤ 5
/-- What a fill comes to. -/
def Filled (d : Nat) (is : List (It α)) (bs : List (Tr α d)) (r : List (It α) × List (Tr α d)) : Prop :=
  flat (d + 1) ((r.1, r.2) : Tr α (d + 1)) = flat (d + 1) ((is, bs) : Tr α (d + 1)) ∧ Ok (d + 1) ((r.1, r.2) : Tr α (d + 1)) ∧ r.1.length ≤ is.length ∧ is.length ≤ r.1.length + 1
end
end Go.Proofs.Ytejpjbmbcdgomaa

/- A tree: a number dropped. Pure. -/
namespace Go.Proofs.Ytejpjbmbcdgomaa
section
variable {α : Type}
def lastT (x0 : It α) : (d : Nat) → Tr α d → It α
  | 0, l => List.getLastD (α := It α) l x0
  | d + 1, t => lastT x0 d (t.2.getLastD (emptyT d))
def dropT (x0 : It α) : (d : Nat) → Tr α d → Int → Tr α d × Option α
  | 0, l, k => match foundAt l k with
    | some y => (List.eraseIdx (α := It α) l (place l k), some y.c)
    | none => (l, none)
  | d + 1, t, k => match foundAt t.1 k with
    | none => match t.2[place t.1 k]? with
      | none => (t, none)
      | some b => (fillT x0 d t.1 (t.2.set (place t.1 k) (dropT x0 d b k).1) (place t.1 k), (dropT x0 d b k).2)
    | some y => match t.2[place t.1 k]? with
      | none => (t, none)
      | some b => (fillT x0 d (t.1.set (place t.1 k) (lastT x0 d b)) (t.2.set (place t.1 k) (dropT x0 d b (lastT x0 d b).k).1) (place t.1 k), some y.c)
end
end Go.Proofs.Ytejpjbmbcdgomaa

/- A whole tree: set, dropped; how deep; a range. Pure. -/
namespace Go.Proofs.Ytejpjbmbcdgomaa
section
variable {α : Type}
structure Top (α : Type) where
  d : Nat
  t : Tr α d
def Top.items (T : Top α) : List (It α) := flat T.d T.t
structure TOk (T : Top α) : Prop where
  ok : Ok T.d T.t
  few : (its T.d T.t).length ≤ 5
  some : T.d = 0 ∨ 0 < (its T.d T.t).length
  up : Up T.items
def Top.new : Top α := ⟨0, ([] : List (It α))⟩
theorem TOk.new : TOk (Top.new : Top α) := ⟨trivial, Nat.zero_le _, .inl rfl, List.Pairwise.nil⟩
theorem Up.ins {l : List (It α)} (h : Up l) (x : It α) : Up (ins x l) := by
  unfold Up Go.Proofs.Ytejpjbmbcdgomaa.ins
  refine List.pairwise_append.2 ⟨h.sublist (List.filter_sublist), List.pairwise_cons.2 ⟨fun y hy => ?_, h.sublist (List.filter_sublist)⟩, fun y hy z hz => ?_⟩
  · simpa using (List.mem_filter.1 hy).2
  · have h1 : y.k < x.k := by simpa using (List.mem_filter.1 hy).2
    rcases List.mem_cons.1 hz with e | e
    · rw [e]; exact h1
    · have h2 : x.k < z.k := by simpa using (List.mem_filter.1 e).2
      omega
theorem Up.del {l : List (It α)} (h : Up l) (k : Int) : Up (del k l) := h.sublist List.filter_sublist
def Top.set (T : Top α) (x : It α) : Top α × Option α :=
  if 5 < (its T.d (setT T.d T.t x).1).length then (⟨T.d + 1, ([(splitT x T.d (setT T.d T.t x).1).2.1], [(splitT x T.d (setT T.d T.t x).1).1, (splitT x T.d (setT T.d T.t x).1).2.2])⟩, (setT T.d T.t x).2)
  else (⟨T.d, (setT T.d T.t x).1⟩, (setT T.d T.t x).2)
theorem top_set (T : Top α) (h : TOk T) (x : It α) : (T.set x).1.items = ins x T.items ∧ (T.set x).2 = getC x.k T.items ∧ TOk (T.set x).1 := by
  obtain ⟨s1, s2, s3, s4, s5⟩ := set_spec x T.d T.t h.ok h.up h.few
  have hu : Up (ins x T.items) := h.up.ins x
  have hfew := h.few
  unfold Top.set
  by_cases h6 : 5 < (its T.d (setT T.d T.t x).1).length
  · rw [if_pos h6]
    obtain ⟨p1, p2, p3, p4, p5⟩ := split_spec x T.d (setT T.d T.t x).1 s3 (by omega)
    generalize splitT x T.d (setT T.d T.t x).1 = p at p1 p2 p3 p4 p5
    obtain ⟨l, m, r⟩ := p
    dsimp only at p1 p2 p3 p4 p5 ⊢
    have e : Top.items ⟨T.d + 1, (([m], [l, r]) : Tr α (T.d + 1))⟩ = ins x T.items := by
      show weave [m] ([l, r].map (flat T.d)) = _
      rw [show weave [m] ([l, r].map (flat T.d)) = flat T.d l ++ m :: flat T.d r from rfl, p1, s1]
      rfl
    refine ⟨e, s2, ⟨⟨rfl, fun z hz => ?_⟩, by show 1 ≤ 5; omega, .inr (by show 0 < 1; omega), by rw [e]; exact hu⟩⟩
    have hz' : z ∈ [l, r] := hz
    simp at hz'
    rcases hz' with e | e
    · subst e; exact ⟨p2, by omega, by omega⟩
    · subst e; exact ⟨p3, by omega, by omega⟩
  · rw [if_neg h6]
    refine ⟨s1, s2, ⟨s3, by show (its T.d (setT T.d T.t x).1).length ≤ 5; omega, ?_, by show Up (flat T.d (setT T.d T.t x).1); rw [s1]; exact hu⟩⟩
    rcases h.some with e | e
    · exact .inl e
    · exact .inr (by show 0 < (its T.d (setT T.d T.t x).1).length; omega)
/-- The tree without its topmost node, where that has no item. -/
def cutTop : (d : Nat) → Tr α d → Top α
  | 0, t => ⟨0, t⟩
  | d + 1, t => if t.1.length = 0 then ⟨d, t.2.headD (emptyT d)⟩ else ⟨d + 1, t⟩
def Top.drop (T : Top α) (x0 : It α) (k : Int) : Top α × Option α := (cutTop T.d (dropT x0 T.d T.t k).1, (dropT x0 T.d T.t k).2)
/-- Each node holds two at least: how many there are by the depth. -/
theorem deep_few : ∀ (d : Nat) (t : Tr α d), Ok d t → 2 ≤ (its d t).length → 3 ^ (d + 1) ≤ (flat d t).length + 1
  | 0, t, _, h => by
    have : 2 ≤ (flat 0 t).length := h
    omega
  | d + 1, (is, bs), hok, h => by
    have hl : bs.length = is.length + 1 := hok.1
    have h' : 2 ≤ is.length := h
    have key : ∀ (is : List (It α)) (bs : List (Tr α d)), bs.length = is.length + 1 → (∀ b ∈ bs, 3 ^ (d + 1) ≤ (flat d b).length + 1) → bs.length * 3 ^ (d + 1) ≤ (weave is (bs.map (flat d))).length + 1 := by
      intro is
      induction is with
      | nil =>
        intro bs hl hb
        obtain ⟨b, rfl⟩ : ∃ b, bs = [b] := by
          match bs, hl with
          | [b], _ => exact ⟨b, rfl⟩
        have := hb b (by simp)
        simpa [weave] using this
      | cons x is ih =>
        intro bs hl hb
        match bs, hl with
        | b :: bs, hl =>
          have h1 := ih bs (by simpa using hl) (fun z hz => hb z (List.mem_cons_of_mem _ hz))
          have h2 := hb b (by simp)
          simp only [List.map_cons, weave, List.length_append, List.length_cons, Nat.succ_mul]
          omega
    have h3 := key is bs hl fun b hb => deep_few d b (hok.2 b hb).1 (hok.2 b hb).2.1
    have h4 : 3 * 3 ^ (d + 1) ≤ bs.length * 3 ^ (d + 1) := Nat.mul_le_mul_right _ (by omega)
    show 3 ^ (d + 1 + 1) ≤ (weave is (bs.map (flat d))).length + 1
    rw [Nat.pow_succ]
    omega
theorem top_deep (T : Top α) (h : TOk T) (hd : 0 < T.d) : 2 * 3 ^ T.d ≤ T.items.length + 1 := by
  obtain ⟨d, t⟩ := T
  cases d with
  | zero => exact absurd hd (Nat.lt_irrefl _)
  | succ d =>
    obtain ⟨is, bs⟩ := t
    have hl : bs.length = is.length + 1 := h.ok.1
    have hp : 0 < is.length := h.some.resolve_left (by show ¬ d + 1 = 0; omega)
    have key : ∀ (is : List (It α)) (bs : List (Tr α d)), bs.length = is.length + 1 → (∀ b ∈ bs, 3 ^ (d + 1) ≤ (flat d b).length + 1) → bs.length * 3 ^ (d + 1) ≤ (weave is (bs.map (flat d))).length + 1 := by
      intro is
      induction is with
      | nil =>
        intro bs hl hb
        obtain ⟨b, rfl⟩ : ∃ b, bs = [b] := by
          match bs, hl with
          | [b], _ => exact ⟨b, rfl⟩
        have := hb b (by simp)
        simpa [weave] using this
      | cons x is ih =>
        intro bs hl hb
        match bs, hl with
        | b :: bs, hl =>
          have h1 := ih bs (by simpa using hl) (fun z hz => hb z (List.mem_cons_of_mem _ hz))
          have h2 := hb b (by simp)
          simp only [List.map_cons, weave, List.length_append, List.length_cons, Nat.succ_mul]
          omega
    have h3 := key is bs hl fun b hb => deep_few d b (h.ok.2 b hb).1 (h.ok.2 b hb).2.1
    have h4 : 2 * 3 ^ (d + 1) ≤ bs.length * 3 ^ (d + 1) := Nat.mul_le_mul_right _ (by omega)
    show 2 * 3 ^ (d + 1) ≤ (weave is (bs.map (flat d))).length + 1
    omega
end
end Go.Proofs.Ytejpjbmbcdgomaa

/- A tree: what is got, a range; the document's list. Pure. -/
namespace Go.Proofs.Ytejpjbmbcdgomaa
section
variable {α : Type}
/-- From one number to another one. -/
def rng (lo hi : Int) (l : List (It α)) : List (It α) := l.filter fun y => decide (lo ≤ y.k) && decide (y.k ≤ hi)
theorem rng_append (lo hi : Int) (a b : List (It α)) : rng lo hi (a ++ b) = rng lo hi a ++ rng lo hi b := List.filter_append ..
theorem rng_low (lo hi : Int) (l : List (It α)) (h : ∀ y ∈ l, y.k < lo) : rng lo hi l = [] := filter_none fun y hy => by have := h y hy; simp; omega
theorem rng_high (lo hi : Int) (l : List (It α)) (h : ∀ y ∈ l, hi < y.k) : rng lo hi l = [] := filter_none fun y hy => by have := h y hy; simp; omega
def getT : (d : Nat) → Tr α d → Int → Option α
  | 0, l, k => (foundAt l k).map It.c
  | d + 1, t, k => match foundAt t.1 k with
    | some y => some y.c
    | none => match t.2[place t.1 k]? with
      | none => none
      | some b => getT d b k
theorem get_spec : ∀ (d : Nat) (t : Tr α d) (k : Int), Ok d t → Up (flat d t) → getT d t k = getC k (flat d t)
  | 0, l, k, _, hu => by
    have hu' : Up (α := α) l := hu
    obtain ⟨a, b, hl, ha, h1, h2⟩ := place_cut hu' k
    show (foundAt (α := α) l k).map It.c = getC k l
    rcases h2 with ⟨y, b', rfl, hy, h3⟩ | ⟨h3, h4⟩
    · rw [found_yes hl ha hy, hl, getC_at y a b' k hy (fun z hz => by have := h1 z hz; omega)]; rfl
    · rw [found_no hl ha h3, hl, getC_none]
      · rfl
      · intro z hz
        rcases List.mem_append.1 hz with e | e
        · have := h1 z e; omega
        · have := h4 z e; omega
  | d + 1, t, k, hok, hu => by
    have hui : Up t.1 := hu.sub (weave_sub t.1 (t.2.map (flat d)) (ok_its hok))
    obtain ⟨a, b, hl, ha, h1, h2⟩ := place_cut hui k
    obtain ⟨bs1, m, bs2, rfl, hb1, hb2⟩ := node_cut hok hl
    have hfl := flat_node (d := d) (a := a) (b := b) (m := m) hb1 hb2
    rw [hfl] at hu
    obtain ⟨u1, u2, u3⟩ := List.pairwise_append.1 hu
    obtain ⟨u4, u5, u6⟩ := List.pairwise_append.1 u2
    have hp := preP_lt k a (bs1.map (flat d)) (by rw [List.length_map]; exact hb1) u1 h1
    have hpl : place (a ++ b) k = a.length := ha.symm
    have hmo : Fine d m := hok.2 m (by show m ∈ bs1 ++ m :: bs2; simp)
    have hg : (bs1 ++ m :: bs2)[place (a ++ b) k]? = some m := by
      rw [hpl, hb1, List.getElem?_append_right (Nat.le_refl _), Nat.sub_self]; rfl
    rcases h2 with ⟨y, b', rfl, hy, h3⟩ | ⟨h3, h4⟩
    · have hf := found_yes (l := a ++ y :: b') rfl ha hy
      have e : getT (d + 1) ((a ++ y :: b', bs1 ++ m :: bs2) : Tr α (d + 1)) k = some y.c := by simp only [getT, hf]
      obtain ⟨m2, bs3, rfl⟩ : ∃ m2 bs3, bs2 = m2 :: bs3 := by
        cases bs2 with
        | nil => simp at hb2
        | cons m2 bs3 => exact ⟨m2, bs3, rfl⟩
      have hq : postQ (y :: b') ((m2 :: bs3).map (flat d)) = y :: (flat d m2 ++ postQ b' (bs3.map (flat d))) := rfl
      rw [hq] at u6 hfl
      rw [e, hfl, ← List.append_assoc, getC_at y _ _ k hy]
      intro z hz
      rcases List.mem_append.1 hz with e | e
      · have := hp z e; omega
      · have := u6 z e y (by simp); omega
    · have hf := found_no (l := a ++ b) rfl ha h3
      have hB := postQ_gt k b (bs2.map (flat d)) (by rw [List.length_map]; exact hb2) u5 h4
      have e : getT (d + 1) ((a ++ b, bs1 ++ m :: bs2) : Tr α (d + 1)) k = getT d m k := by simp only [getT, hf, hg]
      rw [e, get_spec d m k hmo.1 u4, hfl, getC_mid k _ _ _ (fun z hz => by have := hp z hz; omega) (fun z hz => by have := hB z hz; omega)]
/-- What a node shows from a place on. -/
def walkN {β : Type} (f : β → List (It α)) (hi : Int) : List (It α) → List β → List (It α)
  | [], b :: _ => f b
  | x :: is, b :: bs => f b ++ (if hi < x.k then [] else x :: walkN f hi is bs)
  | _, [] => []
def walkT (lo hi : Int) : (d : Nat) → Tr α d → List (It α)
  | 0, l => List.takeWhile (α := It α) (fun y => decide (y.k ≤ hi)) (List.drop (α := It α) (place l lo) l)
  | d + 1, t => walkN (walkT lo hi d) hi (t.1.drop (place t.1 lo)) (t.2.drop (place t.1 lo))
theorem walkN_spec {d : Nat} (f : Tr α d → List (It α)) (lo hi : Int) : ∀ (is : List (It α)) (bs : List (Tr α d)), bs.length = is.length + 1 → Up (weave is (bs.map (flat d))) → (∀ x ∈ is, lo ≤ x.k) → (∀ b ∈ bs, f b = rng lo hi (flat d b)) → walkN f hi is bs = rng lo hi (weave is (bs.map (flat d)))
  | [], [], h, _, _, _ => by simp at h
  | [], [b], _, _, _, hf => by simpa [walkN, weave] using hf b (by simp)
  | [], _ :: _ :: _, h, _, _, _ => by simp at h
  | _ :: _, [], h, _, _, _ => by simp at h
  | x :: is, b :: bs, h, hu, hlo, hf => by
    rw [List.map_cons, weave] at hu ⊢
    obtain ⟨_, u2, _⟩ := List.pairwise_append.1 hu
    obtain ⟨u3, u4⟩ := List.pairwise_cons.1 u2
    rw [walkN, rng_append, hf b (by simp)]
    congr 1
    have hx := hlo x (by simp)
    by_cases e : hi < x.k
    · rw [if_pos e]
      refine (rng_high lo hi _ fun y hy => ?_).symm
      rcases List.mem_cons.1 hy with e2 | e2
      · rw [e2]; exact e
      · have := u3 y e2; omega
    · rw [if_neg e, walkN_spec f lo hi is bs (by simpa using h) u4 (fun z hz => hlo z (List.mem_cons_of_mem _ hz)) (fun z hz => hf z (List.mem_cons_of_mem _ hz))]
      unfold rng
      rw [List.filter_cons_of_pos (by simp; omega)]
theorem takeW (hi : Int) : ∀ (l : List (It α)) (lo : Int), Up l → (∀ x ∈ l, lo ≤ x.k) → l.takeWhile (fun y => decide (y.k ≤ hi)) = rng lo hi l
  | [], _, _, _ => rfl
  | x :: l, lo, hu, hlo => by
    obtain ⟨u1, u2⟩ := List.pairwise_cons.1 hu
    have hx := hlo x (by simp)
    by_cases e : x.k ≤ hi
    · rw [List.takeWhile_cons_of_pos (by simpa using e), takeW hi l lo u2 (fun z hz => hlo z (List.mem_cons_of_mem _ hz))]
      unfold rng
      rw [List.filter_cons_of_pos (by simp; omega)]
    · rw [List.takeWhile_cons_of_neg (by simpa using e)]
      refine (rng_high lo hi _ fun y hy => ?_).symm
      rcases List.mem_cons.1 hy with e2 | e2
      · rw [e2]; omega
      · have := u1 y e2; omega
theorem walk_spec (lo hi : Int) : ∀ (d : Nat) (t : Tr α d), Ok d t → Up (flat d t) → walkT lo hi d t = rng lo hi (flat d t)
  | 0, l, _, hu => by
    have hu' : Up (α := α) l := hu
    obtain ⟨h1, h2⟩ := place_take (α := α) l lo hu'
    have e : flat 0 l = List.take (α := It α) (place l lo) l ++ List.drop (α := It α) (place l lo) l := (List.take_append_drop _ _).symm
    show List.takeWhile (α := It α) _ _ = _
    rw [takeW hi _ lo (hu'.sub (List.drop_sublist _ _)) h2, e, rng_append, rng_low lo hi _ h1]
    rfl
  | d + 1, t, hok, hu => by
    have hui : Up t.1 := hu.sub (weave_sub t.1 (t.2.map (flat d)) (ok_its hok))
    obtain ⟨h1, h2⟩ := place_take t.1 lo hui
    have hl : t.1 = t.1.take (place t.1 lo) ++ t.1.drop (place t.1 lo) := (List.take_append_drop _ _).symm
    have hpl : (t.1.take (place t.1 lo)).length = place t.1 lo := by rw [List.length_take]; exact Nat.min_eq_left (place_le _ _)
    show walkN (walkT lo hi d) hi (t.1.drop (place t.1 lo)) (t.2.drop (place t.1 lo)) = _
    generalize t.1.take (place t.1 lo) = a at h1 hl hpl
    generalize t.1.drop (place t.1 lo) = b at h2 hl
    generalize place t.1 lo = i at hpl
    obtain ⟨bs1, m, bs2, rfl, hb1, hb2⟩ := node_cut hok hl
    have hfl := flat_node (d := d) (a := a) (b := b) (m := m) hb1 hb2
    have hd : (bs1 ++ m :: bs2).drop i = m :: bs2 := by rw [← hpl, hb1]; simp
    show walkN (walkT lo hi d) hi b ((bs1 ++ m :: bs2).drop i) = _
    rw [hd]
    rw [hfl] at hu
    obtain ⟨u1, u2, _⟩ := List.pairwise_append.1 hu
    have hw : weave b ((m :: bs2).map (flat d)) = flat d m ++ postQ b (bs2.map (flat d)) := weave_head b _ _ (by rw [List.length_map]; exact hb2)
    have hfine : ∀ z ∈ m :: bs2, Fine d z := fun z hz => hok.2 z (by show z ∈ bs1 ++ m :: bs2; exact List.mem_append_right _ hz)
    have hsub : ∀ z ∈ m :: bs2, Up (flat d z) := by
      rw [← hw] at u2
      have key : ∀ (is : List (It α)) (cs : List (Tr α d)), cs.length = is.length + 1 → Up (weave is (cs.map (flat d))) → ∀ z ∈ cs, Up (flat d z) := by
        intro is
        induction is with
        | nil =>
          intro cs hl hu z hz
          obtain ⟨c, rfl⟩ : ∃ c, cs = [c] := by
            match cs, hl with
            | [c], _ => exact ⟨c, rfl⟩
          rw [List.mem_singleton.1 hz]
          simpa [weave] using hu
        | cons x is ih =>
          intro cs hl hu z hz
          match cs, hl with
          | c :: cs, hl =>
            rw [List.map_cons, weave] at hu
            obtain ⟨v1, v2, _⟩ := List.pairwise_append.1 hu
            rcases List.mem_cons.1 hz with e | e
            · rw [e]; exact v1
            · exact ih cs (by simpa using hl) (List.pairwise_cons.1 v2).2 z e
      exact key b (m :: bs2) (by simp; omega) u2
    rw [walkN_spec (walkT lo hi d) lo hi b (m :: bs2) (by simp; omega) (by rw [hw]; exact u2) h2 (fun z hz => walk_spec lo hi d z (hfine z hz).1 (hsub z hz)), hw, hfl, rng_append lo hi (preP a (bs1.map (flat d))), rng_low lo hi _ (preP_lt lo a (bs1.map (flat d)) (by rw [List.length_map]; exact hb1) u1 h1)]
    rfl
/-- The document's set. -/
def setR (x : It α) : Bool → List (It α) → List (It α)
  | done, [] => if done then [] else [x]
  | done, y :: l => (if !done && decide (x.k ≤ y.k) then [x] else []) ++ ((if y.k = x.k then [] else [y]) ++ setR x (done || decide (x.k ≤ y.k)) l)
end
end Go.Proofs.Ytejpjbmbcdgomaa
