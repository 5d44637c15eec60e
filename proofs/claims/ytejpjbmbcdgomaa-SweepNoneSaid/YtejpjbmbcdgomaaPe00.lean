/- ZP: put together. -/

/- TPure, TSet, TDrop, TFill, TDropS, TTop, TMore: put together. -/

/- A tree of numbered items, by its depth; what it is as a list; a set. Pure. -/
namespace Go.Proofs.Ytejpjbmbcdgomaa

structure It (α : Type) where
  k : Int
  c : α
/-- A tree whose leaves lie d levels below. -/
def Tr (α : Type) : Nat → Type
  | 0 => List (It α)
  | d + 1 => List (It α) × List (Tr α d)
section
variable {α : Type}
def its : (d : Nat) → Tr α d → List (It α)
  | 0, l => l
  | _ + 1, t => t.1
/-- Items with lists between them. -/
def weave : List (It α) → List (List (It α)) → List (It α)
  | [], b :: _ => b
  | x :: is, b :: bs => b ++ x :: weave is bs
  | _, [] => []
def flat : (d : Nat) → Tr α d → List (It α)
  | 0, l => l
  | d + 1, t => weave t.1 (t.2.map (flat d))
def preP : List (It α) → List (List (It α)) → List (It α)
  | x :: is, b :: bs => b ++ x :: preP is bs
  | _, _ => []
def postQ : List (It α) → List (List (It α)) → List (It α)
  | x :: is, b :: bs => x :: (b ++ postQ is bs)
  | _, _ => []
theorem weave_head : ∀ (is : List (It α)) (b : List (It α)) (bs : List (List (It α))), is.length = bs.length → weave is (b :: bs) = b ++ postQ is bs
  | [], b, bs, h => by
    have : bs = [] := List.eq_nil_of_length_eq_zero h.symm
    subst this
    simp [weave, postQ]
  | x :: is, b, [], h => by simp at h
  | x :: is, b, b2 :: bs, h => by
    rw [weave, weave_head is b2 bs (by simpa using h), postQ]
theorem weave_split : ∀ (is1 : List (It α)) (bs1 : List (List (It α))) (is2 : List (It α)) (b : List (It α)) (bs2 : List (List (It α))), is1.length = bs1.length → is2.length = bs2.length → weave (is1 ++ is2) (bs1 ++ b :: bs2) = preP is1 bs1 ++ (b ++ postQ is2 bs2)
  | [], [], is2, b, bs2, _, h2 => by simpa [preP] using weave_head is2 b bs2 h2
  | [], _ :: _, _, _, _, h, _ => by simp at h
  | _ :: _, [], _, _, _, h, _ => by simp at h
  | x :: is1, b1 :: bs1, is2, b, bs2, h, h2 => by
    rw [List.cons_append, List.cons_append, weave, weave_split is1 bs1 is2 b bs2 (by simpa using h) h2, preP]
    simp
theorem preP_snoc : ∀ (is : List (It α)) (bs : List (List (It α))) (x : It α) (b : List (It α)), is.length = bs.length → preP (is ++ [x]) (bs ++ [b]) = preP is bs ++ (b ++ [x])
  | [], [], x, b, _ => by simp [preP]
  | [], _ :: _, _, _, h => by simp at h
  | _ :: _, [], _, _, h => by simp at h
  | y :: is, c :: bs, x, b, h => by
    rw [List.cons_append, List.cons_append, preP, preP_snoc is bs x b (by simpa using h), preP]
    simp
/-- Rising. -/
def Up (l : List (It α)) : Prop := l.Pairwise fun a b => a.k < b.k
/-- How many come ahead of a number. -/
def place (l : List (It α)) (k : Int) : Nat := l.countP fun x => decide (x.k < k)
theorem place_le (l : List (It α)) (k : Int) : place l k ≤ l.length := List.countP_le_length
theorem place_take : ∀ (l : List (It α)) (k : Int), Up l → (∀ x ∈ l.take (place l k), x.k < k) ∧ ∀ x ∈ l.drop (place l k), k ≤ x.k
  | [], k, _ => ⟨fun x h => by simp at h, fun x h => by simp at h⟩
  | y :: l, k, h => by
    have hl := (List.pairwise_cons.1 h)
    unfold place
    rw [List.countP_cons]
    by_cases hy : y.k < k
    · rw [if_pos (by simpa using hy), List.take_succ_cons, List.drop_succ_cons]
      obtain ⟨h1, h2⟩ := place_take l k hl.2
      refine ⟨fun x hx => ?_, h2⟩
      rcases List.mem_cons.1 hx with e | e
      · rw [e]; exact hy
      · exact h1 x e
    · rw [if_neg (by simpa using hy)]
      have h0 : l.countP (fun x => decide (x.k < k)) = 0 := by
        rw [List.countP_eq_zero]
        intro x hx
        have := hl.1 x hx
        simp; omega
      rw [h0]
      refine ⟨fun x hx => by simp at hx, fun x hx => ?_⟩
      rcases List.mem_cons.1 (by simpa using hx) with e | e
      · rw [e]; omega
      · have := hl.1 x e; omega
/-- The list with an item. -/
def ins (x : It α) (l : List (It α)) : List (It α) := l.filter (fun y => decide (y.k < x.k)) ++ x :: l.filter (fun y => decide (x.k < y.k))
/-- The list without a number. -/
def del (k : Int) (l : List (It α)) : List (It α) := l.filter fun y => decide (y.k ≠ k)
def getC (k : Int) (l : List (It α)) : Option α := (l.find? fun y => decide (y.k = k)).map It.c
theorem filter_all {p : It α → Bool} {l : List (It α)} (h : ∀ x ∈ l, p x = true) : l.filter p = l := List.filter_eq_self.2 h
theorem filter_none {p : It α → Bool} {l : List (It α)} (h : ∀ x ∈ l, p x = false) : l.filter p = [] := List.filter_eq_nil_iff.2 fun x hx => by rw [h x hx]; decide
theorem ins_mid (x : It α) (a m b : List (It α)) (ha : ∀ y ∈ a, y.k < x.k) (hb : ∀ y ∈ b, x.k < y.k) : ins x (a ++ (m ++ b)) = a ++ (ins x m ++ b) := by
  unfold ins
  have a1 : a.filter (fun y => decide (y.k < x.k)) = a := filter_all fun y hy => decide_eq_true (ha y hy)
  have a2 : a.filter (fun y => decide (x.k < y.k)) = [] := filter_none fun y hy => decide_eq_false (by have := ha y hy; omega)
  have b1 : b.filter (fun y => decide (y.k < x.k)) = [] := filter_none fun y hy => decide_eq_false (by have := hb y hy; omega)
  have b2 : b.filter (fun y => decide (x.k < y.k)) = b := filter_all fun y hy => decide_eq_true (hb y hy)
  simp only [List.filter_append, a1, a2, b1, b2]
  simp
theorem del_mid (k : Int) (a m b : List (It α)) (ha : ∀ y ∈ a, y.k ≠ k) (hb : ∀ y ∈ b, y.k ≠ k) : del k (a ++ (m ++ b)) = a ++ (del k m ++ b) := by
  unfold del
  rw [List.filter_append, List.filter_append, filter_all (l := a) fun y hy => decide_eq_true (ha y hy), filter_all (l := b) fun y hy => decide_eq_true (hb y hy)]
theorem getC_mid (k : Int) (a m b : List (It α)) (ha : ∀ y ∈ a, y.k ≠ k) (hb : ∀ y ∈ b, y.k ≠ k) : getC k (a ++ (m ++ b)) = getC k m := by
  unfold getC
  have a1 : a.find? (fun y => decide (y.k = k)) = none := List.find?_eq_none.2 fun y hy => by simpa using ha y hy
  have b1 : b.find? (fun y => decide (y.k = k)) = none := List.find?_eq_none.2 fun y hy => by simpa using hb y hy
  rw [List.find?_append, List.find?_append, a1, b1]
  simp
end
end Go.Proofs.Ytejpjbmbcdgomaa

/- A tree: a set. Pure. -/
namespace Go.Proofs.Ytejpjbmbcdgomaa
section
variable {α : Type}
theorem preP_lt (k : Int) : ∀ (is : List (It α)) (bs : List (List (It α))), is.length = bs.length → Up (preP is bs) → (∀ x ∈ is, x.k < k) → ∀ y ∈ preP is bs, y.k < k
  | [], _, _, _, _, y, hy => by simp [preP] at hy
  | _ :: _, [], h, _, _, _, _ => by simp at h
  | x :: is, b :: bs, h, hu, hk, y, hy => by
    rw [preP] at hu hy
    unfold Up at hu
    obtain ⟨_, h2, h3⟩ := List.pairwise_append.1 hu
    obtain ⟨_, h5⟩ := List.pairwise_cons.1 h2
    rcases List.mem_append.1 hy with e | e
    · have := h3 y e x (by simp); have := hk x (by simp); omega
    · rcases List.mem_cons.1 e with e | e
      · rw [e]; exact hk x (by simp)
      · exact preP_lt k is bs (by simpa using h) h5 (fun z hz => hk z (List.mem_cons_of_mem _ hz)) y e
theorem postQ_gt (k : Int) : ∀ (is : List (It α)) (bs : List (List (It α))), is.length = bs.length → Up (postQ is bs) → (∀ x ∈ is, k < x.k) → ∀ y ∈ postQ is bs, k < y.k
  | [], _, _, _, _, y, hy => by simp [postQ] at hy
  | _ :: _, [], h, _, _, _, _ => by simp at h
  | x :: is, b :: bs, h, hu, hk, y, hy => by
    rw [postQ] at hu hy
    unfold Up at hu
    obtain ⟨h1, h2⟩ := List.pairwise_cons.1 hu
    obtain ⟨_, h5, _⟩ := List.pairwise_append.1 h2
    have hx := hk x (by simp)
    rcases List.mem_cons.1 hy with e | e
    · rw [e]; exact hx
    · rcases List.mem_append.1 e with e | e
      · have := h1 y (List.mem_append_left _ e); omega
      · exact postQ_gt k is bs (by simpa using h) h5 (fun z hz => hk z (List.mem_cons_of_mem _ hz)) y e
theorem weave_sub : ∀ (is : List (It α)) (bs : List (List (It α))), bs.length = is.length + 1 → is.Sublist (weave is bs)
  | [], _, _ => List.nil_sublist _
  | _ :: _, [], h => by simp at h
  | x :: is, b :: bs, h => by
    rw [weave]
    exact ((weave_sub is bs (by simpa using h)).cons_cons x).trans (List.sublist_append_right _ _)
theorem Up.sub {l m : List (It α)} (h : Up m) (hs : l.Sublist m) : Up l := h.sublist hs
theorem ins_at (x y : It α) (a b : List (It α)) (hy : y.k = x.k) (ha : ∀ z ∈ a, z.k < x.k) (hb : ∀ z ∈ b, x.k < z.k) : ins x (a ++ y :: b) = a ++ x :: b := by
  have h := ins_mid x a [y] b ha hb
  rw [List.singleton_append] at h
  rw [h]
  unfold ins
  rw [List.filter_cons_of_neg (by simp; omega), List.filter_cons_of_neg (by simp; omega)]
  simp
theorem getC_at (y : It α) (a b : List (It α)) (k : Int) (hy : y.k = k) (ha : ∀ z ∈ a, z.k ≠ k) : getC k (a ++ y :: b) = some y.c := by
  unfold getC
  have a1 : a.find? (fun y => decide (y.k = k)) = none := List.find?_eq_none.2 fun y hy => by simpa using ha y hy
  rw [List.find?_append, a1, List.find?_cons_of_pos (by simpa using hy)]
  rfl
theorem ins_new (x : It α) (a b : List (It α)) (ha : ∀ z ∈ a, z.k < x.k) (hb : ∀ z ∈ b, x.k < z.k) : ins x (a ++ b) = a ++ x :: b := by
  have h := ins_mid x a [] b ha hb
  simpa [ins] using h
theorem getC_none (k : Int) (l : List (It α)) (h : ∀ z ∈ l, z.k ≠ k) : getC k l = none := by
  unfold getC
  rw [List.find?_eq_none.2 fun y hy => by simpa using h y hy]
  rfl
/-- The place of a number: what lies ahead and behind. -/
theorem place_cut {l : List (It α)} (h : Up l) (k : Int) : ∃ a b, l = a ++ b ∧ a.length = place l k ∧ (∀ x ∈ a, x.k < k) ∧ ((∃ y b', b = y :: b' ∧ y.k = k ∧ ∀ x ∈ b', k < x.k) ∨ ((∀ y, b.head? = some y → y.k ≠ k) ∧ ∀ x ∈ b, k < x.k)) := by
  obtain ⟨h1, h2⟩ := place_take l k h
  refine ⟨l.take (place l k), l.drop (place l k), (List.take_append_drop _ _).symm, by rw [List.length_take]; exact Nat.min_eq_left (place_le l k), h1, ?_⟩
  have hu : Up (l.drop (place l k)) := h.sub (List.drop_sublist _ _)
  generalize l.drop (place l k) = b at h2 hu
  cases b with
  | nil => exact .inr ⟨fun y hy => by simp at hy, fun x hx => by simp at hx⟩
  | cons y b =>
    obtain ⟨h5, _⟩ := List.pairwise_cons.1 hu
    by_cases e : y.k = k
    · exact .inl ⟨y, b, rfl, e, fun x hx => by have := h5 x hx; omega⟩
    · have hy := h2 y (by simp)
      refine .inr ⟨fun z hz => by simp at hz; rw [← hz]; exact e, fun x hx => ?_⟩
      rcases List.mem_cons.1 hx with e2 | e2
      · rw [e2]; omega
      · have := h5 x e2; omega
def foundAt (l : List (It α)) (k : Int) : Option (It α) := match l[place l k]? with
  | some y => if y.k = k then some y else none
  | none => none
theorem found_yes {l a b' : List (It α)} {y : It α} {k : Int} (hl : l = a ++ y :: b') (ha : a.length = place l k) (hy : y.k = k) : foundAt l k = some y := by
  have h : l[place l k]? = some y := by rw [← ha, hl, List.getElem?_append_right (Nat.le_refl _), Nat.sub_self]; rfl
  unfold foundAt
  rw [h]
  simp [hy]
theorem found_no {l a b : List (It α)} {k : Int} (hl : l = a ++ b) (ha : a.length = place l k) (hb : ∀ y, b.head? = some y → y.k ≠ k) : foundAt l k = none := by
  have h : l[place l k]? = b.head? := by
    rw [← ha, hl, List.getElem?_append_right (Nat.le_refl _), Nat.sub_self]
    cases b <;> rfl
  unfold foundAt
  rw [h]
  cases hq : b.head? with
  | none => rfl
  | some y => simp [hb y hq]
def insAt (l : List (It α)) (i : Nat) (x : It α) : List (It α) := l.take i ++ x :: l.drop i
theorem insAt_cut {l a b : List (It α)} {i : Nat} (hl : l = a ++ b) (ha : a.length = i) (x : It α) : insAt l i x = a ++ x :: b := by
  unfold insAt
  subst hl ha
  simp
/-- One too many is made two, with the middle one between. -/
def splitT (x0 : It α) : (d : Nat) → Tr α d → Tr α d × It α × Tr α d
  | 0, l => match l.drop (l.length / 2) with
    | m :: r => (l.take (l.length / 2), m, r)
    | [] => (l, x0, ([] : List (It α)))
  | _ + 1, t => match t.1.drop (t.1.length / 2) with
    | m :: r => ((t.1.take (t.1.length / 2), t.2.take (t.1.length / 2 + 1)), m, (r, t.2.drop (t.1.length / 2 + 1)))
    | [] => (t, x0, ([], []))
def setT : (d : Nat) → Tr α d → It α → Tr α d × Option α
  | 0, l, x => match foundAt l x.k with
    | some y => (l.set (place l x.k) x, some y.c)
    | none => (insAt l (place l x.k) x, none)
  | d + 1, t, x => match foundAt t.1 x.k with
    | some y => ((t.1.set (place t.1 x.k) x, t.2), some y.c)
    | none => match t.2[place t.1 x.k]? with
      | none => (t, none)
      | some b => if 5 < (its d (setT d b x).1).length then
          ((insAt t.1 (place t.1 x.k) (splitT x d (setT d b x).1).2.1, t.2.take (place t.1 x.k) ++ (splitT x d (setT d b x).1).1 :: (splitT x d (setT d b x).1).2.2 :: t.2.drop (place t.1 x.k + 1)), (setT d b x).2)
        else ((t.1, t.2.set (place t.1 x.k) (setT d b x).1), (setT d b x).2)
/-- The nodes below are as told. -/
def Ok : (d : Nat) → Tr α d → Prop
  | 0, _ => True
  | d + 1, t => t.2.length = t.1.length + 1 ∧ ∀ b ∈ t.2, Ok d b ∧ 2 ≤ (its d b).length ∧ (its d b).length ≤ 5
/-- A node of six made two. -/
theorem split_spec (x0 : It α) : ∀ (d : Nat) (t : Tr α d), Ok d t → (its d t).length = 6 → flat d (splitT x0 d t).1 ++ (splitT x0 d t).2.1 :: flat d (splitT x0 d t).2.2 = flat d t ∧ Ok d (splitT x0 d t).1 ∧ Ok d (splitT x0 d t).2.2 ∧ (its d (splitT x0 d t).1).length = 3 ∧ (its d (splitT x0 d t).2.2).length = 2
  | 0, l, _, h6 => by
    have h6' : List.length (α := It α) l = 6 := h6
    obtain ⟨a, b, c, e, f, g, rfl⟩ : ∃ a b c e f g : It α, l = [a, b, c, e, f, g] := by
      match l, h6' with
      | [a, b, c, e, f, g], _ => exact ⟨a, b, c, e, f, g, rfl⟩
    refine ⟨by simp [splitT, flat], trivial, trivial, by simp [splitT, its], by simp [splitT, its]⟩
  | d + 1, (is, bs), ⟨hl, hb⟩, h6 => by
    have h6' : is.length = 6 := h6
    have h7 : bs.length = 7 := by rw [hl]; show is.length + 1 = 7; omega
    obtain ⟨a, b, c, e, f, g, rfl⟩ : ∃ a b c e f g : It α, is = [a, b, c, e, f, g] := by
      match is, h6' with
      | [a, b, c, e, f, g], _ => exact ⟨a, b, c, e, f, g, rfl⟩
    obtain ⟨t1, t2, t3, t4, t5, t6, t7, rfl⟩ : ∃ t1 t2 t3 t4 t5 t6 t7 : Tr α d, bs = [t1, t2, t3, t4, t5, t6, t7] := by
      match bs, h7 with
      | [t1, t2, t3, t4, t5, t6, t7], _ => exact ⟨t1, t2, t3, t4, t5, t6, t7, rfl⟩
    refine ⟨?_, ⟨by simp [splitT], fun z hz => hb z ?_⟩, ⟨by simp [splitT], fun z hz => hb z ?_⟩, by simp [splitT, its], by simp [splitT, its]⟩
    · simp [splitT, flat, weave]
    · have hz' : z ∈ [t1, t2, t3, t4] := by simpa [splitT] using hz
      simp at hz' ⊢
      rcases hz' with h | h | h | h <;> simp [h]
    · have hz' : z ∈ [t5, t6, t7] := by simpa [splitT] using hz
      simp at hz' ⊢
      rcases hz' with h | h | h <;> simp [h]
theorem ok_its {d : Nat} {t : Tr α (d + 1)} (h : Ok (d + 1) t) : (t.2.map (flat d)).length = t.1.length + 1 := by rw [List.length_map]; exact h.1
theorem flat_node {d : Nat} {a b : List (It α)} {bs1 bs2 : List (Tr α d)} {m : Tr α d} (h1 : a.length = bs1.length) (h2 : b.length = bs2.length) : flat (d + 1) ((a ++ b, bs1 ++ m :: bs2) : Tr α (d + 1)) = preP a (bs1.map (flat d)) ++ (flat d m ++ postQ b (bs2.map (flat d))) := by
  show weave (a ++ b) ((bs1 ++ m :: bs2).map (flat d)) = _
  rw [List.map_append, List.map_cons, weave_split a _ b _ _ (by rw [List.length_map]; exact h1) (by rw [List.length_map]; exact h2)]
/-- A node cut at a place. -/
theorem node_cut {d : Nat} {t : Tr α (d + 1)} (h : Ok (d + 1) t) {a b : List (It α)} (he : t.1 = a ++ b) : ∃ (bs1 : List (Tr α d)) (m : Tr α d) (bs2 : List (Tr α d)), t = ((a ++ b, bs1 ++ m :: bs2) : Tr α (d + 1)) ∧ a.length = bs1.length ∧ b.length = bs2.length := by
  obtain ⟨is, bs⟩ := t
  have hl : bs.length = is.length + 1 := h.1
  have he : is = a ++ b := he
  subst he
  rw [List.length_append] at hl
  obtain ⟨bs1, r, rfl, h1⟩ : ∃ bs1 r, bs = bs1 ++ r ∧ a.length = bs1.length := ⟨bs.take a.length, bs.drop a.length, (List.take_append_drop _ _).symm, by rw [List.length_take]; omega⟩
  rw [List.length_append] at hl
  cases r with
  | nil => simp at hl; omega
  | cons m bs2 => exact ⟨bs1, m, bs2, rfl, h1, by simp at hl; omega⟩
/-- What a set makes of a tree. -/
theorem set_spec (x : It α) : ∀ (d : Nat) (t : Tr α d), Ok d t → Up (flat d t) → (its d t).length ≤ 5 →
    flat d (setT d t x).1 = ins x (flat d t) ∧ (setT d t x).2 = getC x.k (flat d t) ∧ Ok d (setT d t x).1 ∧ (its d t).length ≤ (its d (setT d t x).1).length ∧ (its d (setT d t x).1).length ≤ (its d t).length + 1
  | 0, l, _, hu, _ => by
    have hu' : Up (α := α) l := hu
    obtain ⟨a, b, hl, ha, h1, h2⟩ := place_cut hu' x.k
    rcases h2 with ⟨y, b', rfl, hy, h3⟩ | ⟨h3, h4⟩
    · have hf := found_yes hl ha hy
      have e : setT 0 l x = ((List.set (α := It α) l (place l x.k) x : List (It α)), some y.c) := by simp only [setT, hf]; rfl
      have e2 : List.set (α := It α) l (place l x.k) x = a ++ x :: b' := by
        rw [← ha, hl, List.set_append_right _ _ (Nat.le_refl _), Nat.sub_self]; rfl
      rw [e, e2]
      refine ⟨?_, ?_, trivial, ?_, ?_⟩
      · show a ++ x :: b' = ins x l
        rw [hl, ins_at x y a b' hy h1 h3]
      · show some y.c = getC x.k l
        rw [hl, getC_at y a b' x.k hy (fun z hz => by have := h1 z hz; omega)]
      · show List.length (α := It α) l ≤ (a ++ x :: b').length
        rw [hl]; simp
      · show (a ++ x :: b').length ≤ List.length (α := It α) l + 1
        rw [hl]; simp
    · have hf := found_no hl ha h3
      have e : setT 0 l x = ((insAt (α := α) l (place l x.k) x : List (It α)), none) := by simp only [setT, hf]; rfl
      rw [e, insAt_cut hl ha]
      refine ⟨?_, ?_, trivial, ?_, ?_⟩
      · show a ++ x :: b = ins x l
        rw [hl, ins_new x a b h1 h4]
      · show none = getC x.k l
        rw [hl, getC_none]
        intro z hz
        rcases List.mem_append.1 hz with e | e
        · have := h1 z e; omega
        · have := h4 z e; omega
      · show List.length (α := It α) l ≤ (a ++ x :: b).length
        rw [hl]; simp
      · show (a ++ x :: b).length ≤ List.length (α := It α) l + 1
        rw [hl]; simp; omega
  | d + 1, t, hok, hu, h5 => by
    have hui : Up t.1 := hu.sub (weave_sub t.1 (t.2.map (flat d)) (ok_its hok))
    obtain ⟨a, b, hl, ha, h1, h2⟩ := place_cut hui x.k
    obtain ⟨bs1, m, bs2, rfl, hb1, hb2⟩ := node_cut hok hl
    have hfl := flat_node (d := d) (a := a) (b := b) (m := m) hb1 hb2
    rw [hfl] at hu
    obtain ⟨u1, u2, u3⟩ := List.pairwise_append.1 hu
    obtain ⟨u4, u5, u6⟩ := List.pairwise_append.1 u2
    have hp := preP_lt x.k a (bs1.map (flat d)) (by rw [List.length_map]; exact hb1) u1 h1
    have hpl : place (a ++ b) x.k = a.length := ha.symm
    have hmo : Ok d m ∧ 2 ≤ (its d m).length ∧ (its d m).length ≤ 5 := hok.2 m (by show m ∈ bs1 ++ m :: bs2; simp)
    rcases h2 with ⟨y, b', rfl, hy, h3⟩ | ⟨h3, h4⟩
    · have hf := found_yes (l := a ++ y :: b') rfl ha hy
      have e : setT (d + 1) ((a ++ y :: b', bs1 ++ m :: bs2) : Tr α (d + 1)) x = (((a ++ y :: b').set (place (a ++ y :: b') x.k) x, bs1 ++ m :: bs2), some y.c) := by simp only [setT, hf]; rfl
      have e2 : (a ++ y :: b').set (place (a ++ y :: b') x.k) x = a ++ x :: b' := by
        rw [hpl, List.set_append_right _ _ (Nat.le_refl _), Nat.sub_self]; rfl
      rw [e, e2]
      obtain ⟨m2, bs3, rfl⟩ : ∃ m2 bs3, bs2 = m2 :: bs3 := by
        cases bs2 with
        | nil => simp at hb2
        | cons m2 bs3 => exact ⟨m2, bs3, rfl⟩
      have hq : postQ (y :: b') ((m2 :: bs3).map (flat d)) = y :: (flat d m2 ++ postQ b' (bs3.map (flat d))) := rfl
      have hq2 : postQ (x :: b') ((m2 :: bs3).map (flat d)) = x :: (flat d m2 ++ postQ b' (bs3.map (flat d))) := rfl
      rw [hq] at u5 u6 hfl
      obtain ⟨u7, _⟩ := List.pairwise_cons.1 u5
      have hA : ∀ z ∈ preP a (bs1.map (flat d)) ++ flat d m, z.k < x.k := fun z hz => by
        rcases List.mem_append.1 hz with e | e
        · exact hp z e
        · have := u6 z e y (by simp); omega
      have hB : ∀ z ∈ flat d m2 ++ postQ b' (bs3.map (flat d)), x.k < z.k := fun z hz => by have := u7 z hz; omega
      have hfx := flat_node (d := d) (a := a) (b := x :: b') (m := m) (bs2 := m2 :: bs3) hb1 (by simpa using hb2)
      rw [hq2] at hfx
      refine ⟨?_, ?_, ⟨?_, hok.2⟩, ?_, ?_⟩
      · show flat (d + 1) ((a ++ x :: b', bs1 ++ m :: m2 :: bs3) : Tr α (d + 1)) = _
        rw [hfx, hfl, ← List.append_assoc, ← List.append_assoc, ins_at x y _ _ hy hA hB]
      · show some y.c = _
        rw [hfl, ← List.append_assoc, getC_at y _ _ x.k hy (fun z hz => by have := hA z hz; omega)]
      · have := hok.1
        simp at this ⊢
        omega
      · show (a ++ y :: b').length ≤ (a ++ x :: b').length
        simp
      · show (a ++ x :: b').length ≤ (a ++ y :: b').length + 1
        simp
    · have hf := found_no (l := a ++ b) rfl ha h3
      have hB := postQ_gt x.k b (bs2.map (flat d)) (by rw [List.length_map]; exact hb2) u5 h4
      obtain ⟨i1, i2, i3, i4, i5⟩ := set_spec x d m hmo.1 u4 hmo.2.2
      have hg : (bs1 ++ m :: bs2)[place (a ++ b) x.k]? = some m := by
        rw [hpl, hb1, List.getElem?_append_right (Nat.le_refl _), Nat.sub_self]; rfl
      have hins : ins x (flat (d + 1) ((a ++ b, bs1 ++ m :: bs2) : Tr α (d + 1))) = preP a (bs1.map (flat d)) ++ (flat d (setT d m x).1 ++ postQ b (bs2.map (flat d))) := by
        rw [hfl, ins_mid x _ _ _ hp hB, i1]
      have hget : getC x.k (flat (d + 1) ((a ++ b, bs1 ++ m :: bs2) : Tr α (d + 1))) = (setT d m x).2 := by
        rw [hfl, getC_mid x.k _ _ _ (fun z hz => by have := hp z hz; omega) (fun z hz => by have := hB z hz; omega), i2]
      rw [hins, hget]
      by_cases h6 : 5 < (its d (setT d m x).1).length
      · have e : setT (d + 1) ((a ++ b, bs1 ++ m :: bs2) : Tr α (d + 1)) x = ((insAt (a ++ b) (place (a ++ b) x.k) (splitT x d (setT d m x).1).2.1, (bs1 ++ m :: bs2).take (place (a ++ b) x.k) ++ (splitT x d (setT d m x).1).1 :: (splitT x d (setT d m x).1).2.2 :: (bs1 ++ m :: bs2).drop (place (a ++ b) x.k + 1)), (setT d m x).2) := by simp only [setT, hf, hg, h6, if_true]; rfl
        have e3 : (bs1 ++ m :: bs2).take (place (a ++ b) x.k) = bs1 := by rw [hpl, hb1]; simp
        have e4 : (bs1 ++ m :: bs2).drop (place (a ++ b) x.k + 1) = bs2 := by rw [hpl, hb1]; simp
        obtain ⟨s1, s2, s3, s4, s5⟩ := split_spec x d (setT d m x).1 i3 (by omega)
        rw [e, e3, e4, insAt_cut rfl ha]
        generalize splitT x d (setT d m x).1 = sp at s1 s2 s3 s4 s5
        obtain ⟨p1, pm, p2⟩ := sp
        dsimp only at s1 s2 s3 s4 s5
        have hfx := flat_node (d := d) (a := a) (b := pm :: b) (m := p1) (bs1 := bs1) (bs2 := p2 :: bs2) hb1 (by simpa using hb2)
        have hq : postQ (pm :: b) ((p2 :: bs2).map (flat d)) = pm :: (flat d p2 ++ postQ b (bs2.map (flat d))) := rfl
        refine ⟨?_, rfl, ⟨?_, fun z hz => ?_⟩, ?_, ?_⟩
        · show flat (d + 1) ((a ++ pm :: b, bs1 ++ p1 :: p2 :: bs2) : Tr α (d + 1)) = _
          rw [hfx, hq, ← s1]
          simp
        · show (bs1 ++ p1 :: p2 :: bs2).length = (a ++ pm :: b).length + 1
          simp; omega
        · have hz' : z ∈ bs1 ++ p1 :: p2 :: bs2 := hz
          rcases List.mem_append.1 hz' with e1 | e1
          · exact hok.2 z (by show z ∈ bs1 ++ m :: bs2; exact List.mem_append_left _ e1)
          · rcases List.mem_cons.1 e1 with e1 | e1
            · subst e1; exact ⟨s2, by omega, by omega⟩
            · rcases List.mem_cons.1 e1 with e1 | e1
              · subst e1; exact ⟨s3, by omega, by omega⟩
              · exact hok.2 z (by show z ∈ bs1 ++ m :: bs2; exact List.mem_append_right _ (List.mem_cons_of_mem _ e1))
        · show (a ++ b).length ≤ (a ++ pm :: b).length
          simp
        · show (a ++ pm :: b).length ≤ (a ++ b).length + 1
          simp; omega
      · have e : setT (d + 1) ((a ++ b, bs1 ++ m :: bs2) : Tr α (d + 1)) x = ((a ++ b, (bs1 ++ m :: bs2).set (place (a ++ b) x.k) (setT d m x).1), (setT d m x).2) := by simp only [setT, hf, hg, h6, if_false]; rfl
        have e3 : (bs1 ++ m :: bs2).set (place (a ++ b) x.k) (setT d m x).1 = bs1 ++ (setT d m x).1 :: bs2 := by
          rw [hpl, hb1, List.set_append_right _ _ (Nat.le_refl _), Nat.sub_self]; rfl
        rw [e, e3]
        refine ⟨?_, rfl, ⟨?_, fun z hz => ?_⟩, Nat.le_refl _, Nat.le_succ _⟩
        · exact flat_node hb1 hb2
        · show (bs1 ++ (setT d m x).1 :: bs2).length = (a ++ b).length + 1
          simp; omega
        · have hz' : z ∈ bs1 ++ (setT d m x).1 :: bs2 := hz
          rcases List.mem_append.1 hz' with e1 | e1
          · exact hok.2 z (by show z ∈ bs1 ++ m :: bs2; exact List.mem_append_left _ e1)
          · rcases List.mem_cons.1 e1 with e1 | e1
            · subst e1; exact ⟨i3, by omega, by omega⟩
            · exact hok.2 z (by show z ∈ bs1 ++ m :: bs2; exact List.mem_append_right _ (List.mem_cons_of_mem _ e1))
end
end Go.Proofs.Ytejpjbmbcdgomaa

/- A tree: a number dropped. Pure. -/
namespace Go.Proofs.Ytejpjbmbcdgomaa
section
variable {α : Type}
def emptyT : (d : Nat) → Tr α d
  | 0 => ([] : List (It α))
  | _ + 1 => ([], [])
def fromL (x0 : It α) : (d : Nat) → Tr α d → It α → Tr α d → Tr α d × It α × Tr α d
  | 0, l, x, t => ((List.dropLast (α := It α) l : List (It α)), List.getLastD (α := It α) l x0, (x :: t : List (It α)))
  | d + 1, l, x, t => ((l.1.dropLast, l.2.dropLast), l.1.getLastD x0, (x :: t.1, l.2.getLastD (emptyT d) :: t.2))
def fromR (x0 : It α) : (d : Nat) → Tr α d → It α → Tr α d → Tr α d × It α × Tr α d
  | 0, t, x, r => (List.append (α := It α) t [x], List.headD (α := It α) r x0, (List.tail (α := It α) r : List (It α)))
  | d + 1, t, x, r => ((t.1 ++ [x], t.2 ++ [r.2.headD (emptyT d)]), r.1.headD x0, (r.1.tail, r.2.tail))
def mergeT : (d : Nat) → Tr α d → It α → Tr α d → Tr α d
  | 0, l, x, r => List.append (α := It α) l (x :: r)
  | _ + 1, l, x, r => (l.1 ++ [x] ++ r.1, l.2 ++ r.2)
theorem weave_app : ∀ (is1 : List (It α)) (bs1 : List (List (It α))) (x : It α) (is2 : List (It α)) (bs2 : List (List (It α))), bs1.length = is1.length + 1 → bs2.length = is2.length + 1 → weave (is1 ++ x :: is2) (bs1 ++ bs2) = weave is1 bs1 ++ x :: weave is2 bs2
  | [], [b], x, is2, bs2, _, _ => by simp [weave]
  | [], [], _, _, _, h, _ => by simp at h
  | [], _ :: _ :: _, _, _, _, h, _ => by simp at h
  | y :: is1, [], _, _, _, h, _ => by simp at h
  | y :: is1, b :: bs1, x, is2, bs2, h, h2 => by
    rw [List.cons_append, List.cons_append, weave, weave_app is1 bs1 x is2 bs2 (by simpa using h) h2, weave]
    simp
theorem app_len (x : It α) (l r : List (It α)) : (l.append (x :: r)).length = l.length + 1 + r.length := by
  show (l ++ x :: r).length = _
  simp; omega
theorem app_one (x y : It α) (l r : List (It α)) : l.append [x] ++ y :: r = l ++ x :: y :: r := by
  show (l ++ [x]) ++ y :: r = _
  simp
theorem merge_spec : ∀ (d : Nat) (l : Tr α d) (x : It α) (r : Tr α d), Ok d l → Ok d r → flat d (mergeT d l x r) = flat d l ++ x :: flat d r ∧ Ok d (mergeT d l x r) ∧ (its d (mergeT d l x r)).length = (its d l).length + 1 + (its d r).length
  | 0, l, x, r, _, _ => ⟨rfl, trivial, app_len x l r⟩
  | d + 1, l, x, r, h1, h2 => by
    refine ⟨?_, ⟨?_, fun b hb => ?_⟩, ?_⟩
    · show weave (l.1 ++ [x] ++ r.1) ((l.2 ++ r.2).map (flat d)) = _
      rw [List.map_append, List.append_assoc, List.singleton_append, weave_app _ _ _ _ _ (ok_its h1) (ok_its h2)]
      rfl
    · show (l.2 ++ r.2).length = (l.1 ++ [x] ++ r.1).length + 1
      have := h1.1
      have := h2.1
      simp; omega
    · have hb' : b ∈ l.2 ++ r.2 := hb
      rcases List.mem_append.1 hb' with e | e
      · exact h1.2 b e
      · exact h2.2 b e
    · show (l.1 ++ [x] ++ r.1).length = l.1.length + 1 + r.1.length
      simp; omega
theorem snoc_of {β : Type} {l : List β} (h : 0 < l.length) : ∃ a y, l = a ++ [y] := by
  rcases List.eq_nil_or_concat l with e | ⟨a, y, e⟩
  · subst e; simp at h
  · exact ⟨a, y, by rw [e]; simp⟩
theorem cons_of {β : Type} {l : List β} (h : 0 < l.length) : ∃ y a, l = y :: a := by
  cases l with
  | nil => simp at h
  | cons y a => exact ⟨y, a, rfl⟩
theorem fromL_spec (x0 : It α) : ∀ (d : Nat) (l : Tr α d) (x : It α) (t : Tr α d), Ok d l → Ok d t → 0 < (its d l).length → flat d (fromL x0 d l x t).1 ++ (fromL x0 d l x t).2.1 :: flat d (fromL x0 d l x t).2.2 = flat d l ++ x :: flat d t ∧ Ok d (fromL x0 d l x t).1 ∧ Ok d (fromL x0 d l x t).2.2 ∧ (its d (fromL x0 d l x t).1).length + 1 = (its d l).length ∧ (its d (fromL x0 d l x t).2.2).length = (its d t).length + 1
  | 0, l, x, t, _, _, h => by
    obtain ⟨a, y, rfl⟩ := snoc_of (β := It α) (l := l) h
    exact ⟨by simp [fromL, flat], trivial, trivial, by simp [fromL, its], rfl⟩
  | d + 1, (is, bs), x, (js, cs), h1, h2, h => by
    have hl1 : bs.length = is.length + 1 := h1.1
    have hl2 : cs.length = js.length + 1 := h2.1
    obtain ⟨a, y, rfl⟩ := snoc_of (l := is) h
    obtain ⟨as, b, rfl⟩ := snoc_of (l := bs) (by omega)
    simp at hl1
    refine ⟨?_, ⟨?_, fun z hz => h1.2 z ?_⟩, ⟨?_, fun z hz => ?_⟩, ?_, ?_⟩
    · show weave (a ++ [y]).dropLast ((as ++ [b]).dropLast.map (flat d)) ++ (a ++ [y]).getLastD x0 :: weave (x :: js) (((as ++ [b]).getLastD (emptyT d) :: cs).map (flat d)) = weave (a ++ [y]) ((as ++ [b]).map (flat d)) ++ x :: weave js (cs.map (flat d))
      have e : weave (a ++ [y]) ((as ++ [b]).map (flat d)) = weave a (as.map (flat d)) ++ y :: flat d b := by
        rw [List.map_append]
        exact weave_app a _ y [] _ (by rw [List.length_map]; omega) rfl
      rw [e]
      simp [weave]
    · show (as ++ [b]).dropLast.length = (a ++ [y]).dropLast.length + 1
      simp; omega
    · have hz' : z ∈ (as ++ [b]).dropLast := hz
      show z ∈ as ++ [b]
      simp at hz' ⊢
      exact .inl hz'
    · show ((as ++ [b]).getLastD (emptyT d) :: cs).length = (x :: js).length + 1
      simp; omega
    · have hz' : z ∈ (as ++ [b]).getLastD (emptyT d) :: cs := hz
      simp at hz'
      rcases hz' with e | e
      · subst e; exact h1.2 z (by show z ∈ as ++ [z]; simp)
      · exact h2.2 z e
    · show (a ++ [y]).dropLast.length + 1 = (a ++ [y]).length
      simp
    · rfl
theorem fromR_spec (x0 : It α) : ∀ (d : Nat) (t : Tr α d) (x : It α) (r : Tr α d), Ok d t → Ok d r → 0 < (its d r).length → flat d (fromR x0 d t x r).1 ++ (fromR x0 d t x r).2.1 :: flat d (fromR x0 d t x r).2.2 = flat d t ++ x :: flat d r ∧ Ok d (fromR x0 d t x r).1 ∧ Ok d (fromR x0 d t x r).2.2 ∧ (its d (fromR x0 d t x r).1).length = (its d t).length + 1 ∧ (its d (fromR x0 d t x r).2.2).length + 1 = (its d r).length
  | 0, t, x, r, _, _, h => by
    obtain ⟨y, a, rfl⟩ := cons_of (β := It α) (l := r) h
    exact ⟨app_one x y t a, trivial, trivial, app_len x t [], rfl⟩
  | d + 1, (is, bs), x, (js, cs), h1, h2, h => by
    have hl1 : bs.length = is.length + 1 := h1.1
    have hl2 : cs.length = js.length + 1 := h2.1
    obtain ⟨y, a, rfl⟩ := cons_of (l := js) h
    obtain ⟨b, as, rfl⟩ := cons_of (l := cs) (by omega)
    simp at hl2
    refine ⟨?_, ⟨?_, fun z hz => ?_⟩, ⟨?_, fun z hz => h2.2 z ?_⟩, ?_, ?_⟩
    · show weave (is ++ [x]) ((bs ++ [b]).map (flat d)) ++ y :: weave a (as.map (flat d)) = weave is (bs.map (flat d)) ++ x :: weave (y :: a) ((b :: as).map (flat d))
      have e : weave (is ++ [x]) ((bs ++ [b]).map (flat d)) = weave is (bs.map (flat d)) ++ x :: flat d b := by
        rw [List.map_append]
        exact weave_app is _ x [] _ (by rw [List.length_map]; omega) rfl
      rw [e]
      simp [weave]
    · show (bs ++ [b]).length = (is ++ [x]).length + 1
      simp; omega
    · have hz' : z ∈ bs ++ [b] := hz
      rcases List.mem_append.1 hz' with e | e
      · exact h1.2 z e
      · rw [List.mem_singleton.1 e]; exact h2.2 b (by show b ∈ b :: as; simp)
    · exact hl2
    · show z ∈ b :: as
      exact List.mem_cons_of_mem _ hz
    · show (is ++ [x]).length = is.length + 1
      simp
    · rfl
end
end Go.Proofs.Ytejpjbmbcdgomaa

/- A tree: a node below filled, a number dropped. Pure. -/
namespace Go.Proofs.Ytejpjbmbcdgomaa
section
variable {α : Type}
theorem getD_mid {β : Type} (p q : List β) (y e : β) (i : Nat) (h : p.length = i) : (p ++ y :: q).getD i e = y := by
  subst h
  rw [List.getD_eq_getElem?_getD, List.getElem?_append_right (Nat.le_refl _), Nat.sub_self]
  rfl
theorem set_mid {β : Type} (p q : List β) (y z : β) (i : Nat) (h : p.length = i) : (p ++ y :: q).set i z = p ++ z :: q := by
  subst h
  rw [List.set_append_right _ _ (Nat.le_refl _), Nat.sub_self]
  rfl
theorem erase_mid {β : Type} (p q : List β) (y : β) (i : Nat) (h : p.length = i) : (p ++ y :: q).eraseIdx i = p ++ q := by
  subst h
  rw [List.eraseIdx_append_of_length_le (Nat.le_refl _), Nat.sub_self]
  rfl
def fillT (x0 : It α) (d : Nat) (is : List (It α)) (bs : List (Tr α d)) (i : Nat) : List (It α) × List (Tr α d) :=
  if 2 ≤ (its d (bs.getD i (emptyT d))).length then (is, bs)
  else if 0 < i ∧ 2 < (its d (bs.getD (i - 1) (emptyT d))).length then
    (is.set (i - 1) (fromL x0 d (bs.getD (i - 1) (emptyT d)) (is.getD (i - 1) x0) (bs.getD i (emptyT d))).2.1,
      (bs.set (i - 1) (fromL x0 d (bs.getD (i - 1) (emptyT d)) (is.getD (i - 1) x0) (bs.getD i (emptyT d))).1).set i (fromL x0 d (bs.getD (i - 1) (emptyT d)) (is.getD (i - 1) x0) (bs.getD i (emptyT d))).2.2)
  else if i < is.length ∧ 2 < (its d (bs.getD (i + 1) (emptyT d))).length then
    (is.set i (fromR x0 d (bs.getD i (emptyT d)) (is.getD i x0) (bs.getD (i + 1) (emptyT d))).2.1,
      (bs.set i (fromR x0 d (bs.getD i (emptyT d)) (is.getD i x0) (bs.getD (i + 1) (emptyT d))).1).set (i + 1) (fromR x0 d (bs.getD i (emptyT d)) (is.getD i x0) (bs.getD (i + 1) (emptyT d))).2.2)
  else if 0 < i then (is.eraseIdx (i - 1), (bs.set (i - 1) (mergeT d (bs.getD (i - 1) (emptyT d)) (is.getD (i - 1) x0) (bs.getD i (emptyT d)))).eraseIdx i)
  else (is.eraseIdx i, (bs.set i (mergeT d (bs.getD i (emptyT d)) (is.getD i x0) (bs.getD (i + 1) (emptyT d)))).eraseIdx (i + 1))
def Fine (d : Nat) (z : Tr α d) : Prop := Ok d z ∧ 2 ≤ (its d z).length ∧ (its d z).length ≤ 5
/-- What a fill comes to. -/
def Filled (d : Nat) (is : List (It α)) (bs : List (Tr α d)) (r : List (It α) × List (Tr α d)) : Prop :=
  flat (d + 1) ((r.1, r.2) : Tr α (d + 1)) = flat (d + 1) ((is, bs) : Tr α (d + 1)) ∧ Ok (d + 1) ((r.1, r.2) : Tr α (d + 1)) ∧ r.1.length ≤ is.length ∧ is.length ≤ r.1.length + 1
theorem ok_node {d : Nat} {is : List (It α)} {bs : List (Tr α d)} (hl : bs.length = is.length + 1) (h : ∀ z ∈ bs, Fine d z) : Ok (d + 1) ((is, bs) : Tr α (d + 1)) := ⟨hl, h⟩
theorem mergeL_spec (d : Nat) (a0 b : List (It α)) (x : It α) (b0 bs2 : List (Tr α d)) (l m : Tr α d) (h0 : a0.length = b0.length) (h2 : b.length = bs2.length) (hl : Fine d l) (hm : Ok d m) (h3 : (its d l).length ≤ 2) (h4 : (its d m).length ≤ 1)
    (ho1 : ∀ z ∈ b0, Fine d z) (ho2 : ∀ z ∈ bs2, Fine d z) (i : Nat) (hi : a0.length = i) : Filled d (a0 ++ [x] ++ b) (b0 ++ [l] ++ m :: bs2) ((a0 ++ [x] ++ b).eraseIdx i, ((b0 ++ [l] ++ m :: bs2).set i (mergeT d l x m)).eraseIdx (i + 1)) := by
  obtain ⟨s1, s2, s3⟩ := merge_spec d l x m hl.1 hm
  have e1 : (a0 ++ [x] ++ b).eraseIdx i = a0 ++ b := by rw [List.append_assoc]; exact erase_mid a0 b x i hi
  have e2 : ((b0 ++ [l] ++ m :: bs2).set i (mergeT d l x m)).eraseIdx (i + 1) = b0 ++ mergeT d l x m :: bs2 := by
    have e3 : (b0 ++ [l] ++ m :: bs2).set i (mergeT d l x m) = (b0 ++ [mergeT d l x m]) ++ m :: bs2 := by
      rw [List.append_assoc, List.append_assoc]; exact set_mid b0 (m :: bs2) l _ i (by omega)
    rw [e3, erase_mid (b0 ++ [mergeT d l x m]) bs2 m (i + 1) (by simp; omega)]
    simp
  rw [e1, e2]
  refine ⟨?_, ok_node (by simp; omega) fun z hz => ?_, by simp, by simp; omega⟩
  · have k1 := flat_node (d := d) (a := a0) (b := b) (bs1 := b0) (m := mergeT d l x m) (bs2 := bs2) h0 h2
    have k2 := flat_node (d := d) (a := a0) (b := x :: b) (bs1 := b0) (m := l) (bs2 := m :: bs2) h0 (by simpa using h2)
    rw [List.append_assoc, List.append_assoc]
    refine k1.trans (Eq.trans ?_ k2.symm)
    rw [s1]
    show _ = preP a0 (b0.map (flat d)) ++ (flat d l ++ x :: (flat d m ++ postQ b (bs2.map (flat d))))
    simp
  · rcases List.mem_append.1 hz with e | e
    · exact ho1 z e
    · rcases List.mem_cons.1 e with e | e
      · subst e; have := hl.2.1; exact ⟨s2, by omega, by omega⟩
      · exact ho2 z e
theorem mergeR_spec (d : Nat) (b1 : List (It α)) (y : It α) (c2 : List (Tr α d)) (m r : Tr α d) (h2 : b1.length = c2.length) (hr : Fine d r) (hm : Ok d m) (h3 : (its d r).length ≤ 2) (h4 : (its d m).length ≤ 1)
    (ho2 : ∀ z ∈ c2, Fine d z) : Filled d (y :: b1) (m :: r :: c2) ((y :: b1).eraseIdx 0, ((m :: r :: c2).set 0 (mergeT d m y r)).eraseIdx 1) := by
  obtain ⟨s1, s2, s3⟩ := merge_spec d m y r hm hr.1
  refine ⟨?_, ok_node (by simp; omega) fun z hz => ?_, by simp, by simp⟩
  · have k1 := flat_node (d := d) (a := []) (b := b1) (bs1 := []) (m := mergeT d m y r) (bs2 := c2) rfl h2
    have k2 := flat_node (d := d) (a := []) (b := y :: b1) (bs1 := []) (m := m) (bs2 := r :: c2) rfl (by simpa using h2)
    refine k1.trans (Eq.trans ?_ k2.symm)
    rw [s1]
    show _ = preP [] (([] : List (Tr α d)).map (flat d)) ++ (flat d m ++ y :: (flat d r ++ postQ b1 (c2.map (flat d))))
    simp
  · have hz' : z ∈ mergeT d m y r :: c2 := hz
    rcases List.mem_cons.1 hz' with e | e
    · subst e; have := hr.2.1; exact ⟨s2, by omega, by omega⟩
    · exact ho2 z e
theorem fill_spec (x0 : It α) (d : Nat) (a b : List (It α)) (bs1 bs2 : List (Tr α d)) (m : Tr α d) (h1 : a.length = bs1.length) (h2 : b.length = bs2.length) (hm : Ok d m) (hm1 : 1 ≤ (its d m).length) (hm5 : (its d m).length ≤ 5)
    (ho1 : ∀ z ∈ bs1, Fine d z) (ho2 : ∀ z ∈ bs2, Fine d z) (hne : 0 < (a ++ b).length) : Filled d (a ++ b) (bs1 ++ m :: bs2) (fillT x0 d (a ++ b) (bs1 ++ m :: bs2) a.length) := by
  have hg : (bs1 ++ m :: bs2).getD a.length (emptyT d) = m := getD_mid bs1 bs2 m _ _ h1.symm
  unfold fillT
  rw [hg]
  by_cases c0 : 2 ≤ (its d m).length
  · rw [if_pos c0]
    refine ⟨rfl, ok_node (by simp; omega) fun z hz => ?_, Nat.le_refl _, Nat.le_succ _⟩
    rcases List.mem_append.1 hz with e | e
    · exact ho1 z e
    · rcases List.mem_cons.1 e with e | e
      · rw [e]; exact ⟨hm, c0, hm5⟩
      · exact ho2 z e
  · rw [if_neg c0]
    by_cases ha : 0 < a.length
    · obtain ⟨a0, x, rfl⟩ := snoc_of ha
      obtain ⟨b0, l, rfl⟩ := snoc_of (l := bs1) (by omega)
      have h0 : a0.length = b0.length := by simpa using h1
      have hi : (a0 ++ [x]).length - 1 = a0.length := by simp
      have hl := ho1 l (by simp)
      have q1 : (a0 ++ [x] ++ b).getD a0.length x0 = x := by rw [List.append_assoc]; exact getD_mid a0 b x x0 _ rfl
      have q2 : (b0 ++ [l] ++ m :: bs2).getD a0.length (emptyT d) = l := by rw [List.append_assoc]; exact getD_mid b0 (m :: bs2) l _ _ h0.symm
      rw [hi, q1, q2]
      have hf0 : flat (d + 1) ((a0 ++ [x] ++ b, b0 ++ [l] ++ m :: bs2) : Tr α (d + 1)) = preP a0 (b0.map (flat d)) ++ (flat d l ++ x :: (flat d m ++ postQ b (bs2.map (flat d)))) := by
        have := flat_node (d := d) (a := a0) (b := x :: b) (bs1 := b0) (m := l) (bs2 := m :: bs2) h0 (by simpa using h2)
        rw [List.append_assoc, List.append_assoc]
        exact this
      by_cases c1 : 2 < (its d l).length
      · rw [if_pos ⟨ha, c1⟩]
        obtain ⟨s1, s2, s3, s4, s5⟩ := fromL_spec x0 d l x m hl.1 hm (by omega)
        generalize fromL x0 d l x m = p at s1 s2 s3 s4 s5
        obtain ⟨l', x', t'⟩ := p
        dsimp only at s1 s2 s3 s4 s5 ⊢
        have e1 : (a0 ++ [x] ++ b).set a0.length x' = a0 ++ x' :: b := by rw [List.append_assoc]; exact set_mid a0 b x x' _ rfl
        have e2 : ((b0 ++ [l] ++ m :: bs2).set a0.length l').set (a0 ++ [x]).length t' = b0 ++ l' :: t' :: bs2 := by
          have e3 : (b0 ++ [l] ++ m :: bs2).set a0.length l' = (b0 ++ [l']) ++ m :: bs2 := by
            rw [List.append_assoc, List.append_assoc]; exact set_mid b0 (m :: bs2) l l' _ h0.symm
          rw [e3, set_mid (b0 ++ [l']) bs2 m t' _ (by simp; omega)]
          simp
        rw [e1, e2]
        refine ⟨?_, ok_node (by simp at h1 h2 ⊢; omega) fun z hz => ?_, by simp, by simp⟩
        · have := flat_node (d := d) (a := a0) (b := x' :: b) (bs1 := b0) (m := l') (bs2 := t' :: bs2) h0 (by simpa using h2)
          rw [hf0]
          refine this.trans ?_
          show preP a0 (b0.map (flat d)) ++ (flat d l' ++ x' :: (flat d t' ++ postQ b (bs2.map (flat d)))) = _
          have e4 : flat d l' ++ x' :: (flat d t' ++ postQ b (bs2.map (flat d))) = (flat d l' ++ x' :: flat d t') ++ postQ b (bs2.map (flat d)) := by simp
          rw [e4, s1]
          simp
        · rcases List.mem_append.1 hz with e | e
          · exact ho1 z (List.mem_append_left _ e)
          · rcases List.mem_cons.1 e with e | e
            · subst e; exact ⟨s2, by omega, by have := hl.2.2; omega⟩
            · rcases List.mem_cons.1 e with e | e
              · subst e; exact ⟨s3, by omega, by omega⟩
              · exact ho2 z e
      · rw [if_neg (fun e => c1 e.2)]
        by_cases hb : 0 < b.length
        · obtain ⟨y, b1, rfl⟩ := cons_of hb
          obtain ⟨r, c2, rfl⟩ := cons_of (l := bs2) (by omega)
          have hr := ho2 r (by simp)
          have q3 : (a0 ++ [x] ++ y :: b1).getD (a0 ++ [x]).length x0 = y := getD_mid _ b1 y x0 _ rfl
          have q4 : (b0 ++ [l] ++ m :: r :: c2).getD ((a0 ++ [x]).length + 1) (emptyT d) = r := by
            have := getD_mid (b0 ++ [l] ++ [m]) c2 r (emptyT d) ((a0 ++ [x]).length + 1) (by simp; omega)
            simpa using this
          rw [q3, q4]
          by_cases c2' : 2 < (its d r).length
          · rw [if_pos ⟨by simp, c2'⟩]
            obtain ⟨s1, s2, s3, s4, s5⟩ := fromR_spec x0 d m y r hm hr.1 (by omega)
            generalize fromR x0 d m y r = p at s1 s2 s3 s4 s5
            obtain ⟨m', y', r'⟩ := p
            dsimp only at s1 s2 s3 s4 s5 ⊢
            have e1 : (a0 ++ [x] ++ y :: b1).set (a0 ++ [x]).length y' = a0 ++ [x] ++ y' :: b1 := set_mid _ b1 y y' _ rfl
            have e2 : ((b0 ++ [l] ++ m :: r :: c2).set (a0 ++ [x]).length m').set ((a0 ++ [x]).length + 1) r' = b0 ++ [l] ++ m' :: r' :: c2 := by
              rw [set_mid (b0 ++ [l]) (r :: c2) m m' _ (by simp; omega)]
              have := set_mid (b0 ++ [l] ++ [m']) c2 r r' ((a0 ++ [x]).length + 1) (by simp; omega)
              simpa using this
            rw [e1, e2]
            refine ⟨?_, ok_node (by simp at h1 h2 ⊢; omega) fun z hz => ?_, by simp, by simp⟩
            · have k1 := flat_node (d := d) (a := a0 ++ [x]) (b := y' :: b1) (bs1 := b0 ++ [l]) (m := m') (bs2 := r' :: c2) h1 (by simpa using h2)
              have k2 := flat_node (d := d) (a := a0 ++ [x]) (b := y :: b1) (bs1 := b0 ++ [l]) (m := m) (bs2 := r :: c2) h1 (by simpa using h2)
              rw [k2]
              refine k1.trans ?_
              show _ ++ (flat d m' ++ y' :: (flat d r' ++ postQ b1 (c2.map (flat d)))) = _ ++ (flat d m ++ y :: (flat d r ++ postQ b1 (c2.map (flat d))))
              have e4 : flat d m' ++ y' :: (flat d r' ++ postQ b1 (c2.map (flat d))) = (flat d m' ++ y' :: flat d r') ++ postQ b1 (c2.map (flat d)) := by simp
              rw [e4, s1]
              simp
            · rcases List.mem_append.1 hz with e | e
              · exact ho1 z e
              · rcases List.mem_cons.1 e with e | e
                · subst e; exact ⟨s2, by omega, by omega⟩
                · rcases List.mem_cons.1 e with e | e
                  · subst e; exact ⟨s3, by omega, by have := hr.2.2; omega⟩
                  · exact ho2 z (List.mem_cons_of_mem _ e)
          · rw [if_neg (fun e => c2' e.2), if_pos ha]
            have hii : (a0 ++ [x]).length = a0.length + 1 := by simp
            rw [hii]
            exact mergeL_spec d a0 _ x b0 _ l m h0 h2 hl hm (by omega) (by omega) (fun z hz => ho1 z (List.mem_append_left _ hz)) ho2 a0.length rfl
        · rw [if_neg (fun e => by have := e.1; simp at this; omega), if_pos ha]
          have hii : (a0 ++ [x]).length = a0.length + 1 := by simp
          rw [hii]
          exact mergeL_spec d a0 _ x b0 _ l m h0 h2 hl hm (by omega) (by omega) (fun z hz => ho1 z (List.mem_append_left _ hz)) ho2 a0.length rfl
    · have ha0 : a = [] := List.eq_nil_of_length_eq_zero (by omega)
      subst ha0
      have hb0 : bs1 = [] := List.eq_nil_of_length_eq_zero (by simpa using h1.symm)
      subst hb0
      rw [if_neg (fun e => ha e.1)]
      obtain ⟨y, b1, rfl⟩ := cons_of (l := b) (by simpa using hne)
      obtain ⟨r, c2, rfl⟩ := cons_of (l := bs2) (by simp at h2; omega)
      have hr := ho2 r (by simp)
      by_cases c2' : 2 < (its d r).length
      · have hc : (([] : List (It α)).length < ([] ++ y :: b1).length ∧ 2 < (its d ((([] : List (Tr α d)) ++ m :: r :: c2).getD (([] : List (It α)).length + 1) (emptyT d))).length) := ⟨by simp, c2'⟩
        rw [if_pos hc]
        show Filled d (y :: b1) (m :: r :: c2) (((fromR x0 d m y r).2.1 :: b1), (fromR x0 d m y r).1 :: (fromR x0 d m y r).2.2 :: c2)
        obtain ⟨s1, s2, s3, s4, s5⟩ := fromR_spec x0 d m y r hm hr.1 (by omega)
        generalize fromR x0 d m y r = p at s1 s2 s3 s4 s5
        obtain ⟨m', y', r'⟩ := p
        dsimp only at s1 s2 s3 s4 s5 ⊢
        have h2' : b1.length = c2.length := by simpa using h2
        refine ⟨?_, ok_node (by simp; omega) fun z hz => ?_, by simp, by simp⟩
        · have k1 := flat_node (d := d) (a := []) (b := y' :: b1) (bs1 := []) (m := m') (bs2 := r' :: c2) rfl (by simpa using h2')
          have k2 := flat_node (d := d) (a := []) (b := y :: b1) (bs1 := []) (m := m) (bs2 := r :: c2) rfl (by simpa using h2')
          refine k1.trans (Eq.trans ?_ k2.symm)
          show _ ++ (flat d m' ++ y' :: (flat d r' ++ postQ b1 (c2.map (flat d)))) = _ ++ (flat d m ++ y :: (flat d r ++ postQ b1 (c2.map (flat d))))
          have e4 : flat d m' ++ y' :: (flat d r' ++ postQ b1 (c2.map (flat d))) = (flat d m' ++ y' :: flat d r') ++ postQ b1 (c2.map (flat d)) := by simp
          rw [e4, s1]
          simp
        · rcases List.mem_cons.1 hz with e | e
          · subst e; exact ⟨s2, by omega, by omega⟩
          · rcases List.mem_cons.1 e with e | e
            · subst e; exact ⟨s3, by omega, by have := hr.2.2; omega⟩
            · exact ho2 z (List.mem_cons_of_mem _ e)
      · have hc : ¬ (([] : List (It α)).length < ([] ++ y :: b1).length ∧ 2 < (its d ((([] : List (Tr α d)) ++ m :: r :: c2).getD (([] : List (It α)).length + 1) (emptyT d))).length) := fun e => c2' e.2
        rw [if_neg hc, if_neg ha]
        exact mergeR_spec d b1 y c2 m r (by simpa using h2) hr hm (by omega) (by omega) (fun z hz => ho2 z (List.mem_cons_of_mem _ hz))
end
end Go.Proofs.Ytejpjbmbcdgomaa

/- A tree: a number dropped. Pure. -/
namespace Go.Proofs.Ytejpjbmbcdgomaa
section
variable {α : Type}
def lastT (x0 : It α) : (d : Nat) → Tr α d → It α
  | 0, l => List.getLastD (α := It α) l x0
  | d + 1, t => lastT x0 d (t.2.getLastD (emptyT d))
theorem last_spec (x0 : It α) : ∀ (d : Nat) (t : Tr α d), Ok d t → 0 < (its d t).length → ∃ F, flat d t = F ++ [lastT x0 d t]
  | 0, l, _, h => by
    obtain ⟨a, y, rfl⟩ := snoc_of (β := It α) (l := l) h
    exact ⟨a, by simp [flat, lastT]⟩
  | d + 1, (is, bs), hok, h => by
    have hl : bs.length = is.length + 1 := hok.1
    obtain ⟨a, y, rfl⟩ := snoc_of (l := is) h
    obtain ⟨as, b, rfl⟩ := snoc_of (l := bs) (by omega)
    have hb := hok.2 b (by show b ∈ as ++ [b]; simp)
    obtain ⟨F, hF⟩ := last_spec x0 d b hb.1 (by omega)
    have e : flat (d + 1) ((a ++ [y], as ++ [b]) : Tr α (d + 1)) = weave a (as.map (flat d)) ++ y :: flat d b := by
      show weave (a ++ [y]) ((as ++ [b]).map (flat d)) = _
      rw [List.map_append]
      exact weave_app a _ y [] _ (by rw [List.length_map]; simp at hl; omega) rfl
    refine ⟨weave a (as.map (flat d)) ++ y :: F, ?_⟩
    have e2 : lastT x0 (d + 1) ((a ++ [y], as ++ [b]) : Tr α (d + 1)) = lastT x0 d b := by
      show lastT x0 d ((as ++ [b]).getLastD (emptyT d)) = _
      simp
    rw [e, e2, hF]
    simp
def dropT (x0 : It α) : (d : Nat) → Tr α d → Int → Tr α d × Option α
  | 0, l, k => match foundAt l k with
    | some y => (List.eraseIdx (α := It α) l (place l k), some y.c)
    | none => (l, none)
  | d + 1, t, k => match foundAt t.1 k with
    | none => match t.2[place t.1 k]? with
      | none => (t, none)
      | some b => (fillT x0 d t.1 (t.2.set (place t.1 k) (dropT x0 d b k).1) (place t.1 k), (dropT x0 d b k).2)
    | some y => match t.2[place t.1 k]? with
      | none => (t, none)
      | some b => (fillT x0 d (t.1.set (place t.1 k) (lastT x0 d b)) (t.2.set (place t.1 k) (dropT x0 d b (lastT x0 d b).k).1) (place t.1 k), some y.c)
theorem del_at (k : Int) (y : It α) (a b : List (It α)) (hy : y.k = k) (ha : ∀ z ∈ a, z.k ≠ k) (hb : ∀ z ∈ b, z.k ≠ k) : del k (a ++ y :: b) = a ++ b := by
  have h := del_mid k a [y] b ha hb
  rw [List.singleton_append] at h
  rw [h]
  unfold del
  rw [List.filter_cons_of_neg (by simp [hy])]
  simp
theorem del_none (k : Int) (l : List (It α)) (h : ∀ z ∈ l, z.k ≠ k) : del k l = l := filter_all fun y hy => decide_eq_true (h y hy)
theorem drop_spec (x0 : It α) : ∀ (d : Nat) (t : Tr α d) (k : Int), Ok d t → Up (flat d t) → (its d t).length ≤ 5 → (d = 0 ∨ 0 < (its d t).length) →
    flat d (dropT x0 d t k).1 = del k (flat d t) ∧ (dropT x0 d t k).2 = getC k (flat d t) ∧ Ok d (dropT x0 d t k).1 ∧ (its d (dropT x0 d t k).1).length ≤ (its d t).length ∧ (its d t).length ≤ (its d (dropT x0 d t k).1).length + 1
  | 0, l, k, _, hu, _, _ => by
    have hu' : Up (α := α) l := hu
    obtain ⟨a, b, hl, ha, h1, h2⟩ := place_cut hu' k
    rcases h2 with ⟨y, b', rfl, hy, h3⟩ | ⟨h3, h4⟩
    · have hf := found_yes hl ha hy
      have e : dropT x0 0 l k = ((List.eraseIdx (α := It α) l (place l k) : List (It α)), some y.c) := by simp only [dropT, hf]; rfl
      have e2 : List.eraseIdx (α := It α) l (place l k) = a ++ b' := by
        rw [← ha]
        exact (congrArg (fun q : List (It α) => q.eraseIdx a.length) hl).trans (erase_mid a b' y _ rfl)
      have ha' : ∀ z ∈ a, z.k ≠ k := fun z hz => by have := h1 z hz; omega
      have hb' : ∀ z ∈ b', z.k ≠ k := fun z hz => by have := h3 z hz; omega
      rw [e, e2]
      refine ⟨?_, ?_, trivial, ?_, ?_⟩
      · show a ++ b' = del k l
        rw [hl, del_at k y a b' hy ha' hb']
      · show some y.c = getC k l
        rw [hl, getC_at y a b' k hy ha']
      · show (a ++ b').length ≤ List.length (α := It α) l
        rw [hl]; simp
      · show List.length (α := It α) l ≤ (a ++ b').length + 1
        rw [hl]; simp; omega
    · have hf := found_no hl ha h3
      have e : dropT x0 0 l k = (l, none) := by simp only [dropT, hf]
      have hn : ∀ z ∈ a ++ b, z.k ≠ k := fun z hz => by
        rcases List.mem_append.1 hz with e | e
        · have := h1 z e; omega
        · have := h4 z e; omega
      rw [e]
      refine ⟨?_, ?_, trivial, Nat.le_refl _, Nat.le_succ _⟩
      · show l = del k l
        exact (del_none k l (by rw [hl]; exact hn)).symm
      · show none = getC k l
        exact (getC_none k l (by rw [hl]; exact hn)).symm
  | d + 1, t, k, hok, hu, h5, hne => by
    have hui : Up t.1 := hu.sub (weave_sub t.1 (t.2.map (flat d)) (ok_its hok))
    obtain ⟨a, b, hl, ha, h1, h2⟩ := place_cut hui k
    obtain ⟨bs1, m, bs2, rfl, hb1, hb2⟩ := node_cut hok hl
    have hne' : 0 < (a ++ b).length := hne.resolve_left (by omega)
    have hfl := flat_node (d := d) (a := a) (b := b) (m := m) hb1 hb2
    rw [hfl] at hu
    obtain ⟨u1, u2, u3⟩ := List.pairwise_append.1 hu
    obtain ⟨u4, u5, u6⟩ := List.pairwise_append.1 u2
    have hp := preP_lt k a (bs1.map (flat d)) (by rw [List.length_map]; exact hb1) u1 h1
    have hpl : place (a ++ b) k = a.length := ha.symm
    have hmo : Fine d m := hok.2 m (by show m ∈ bs1 ++ m :: bs2; simp)
    have ho1 : ∀ z ∈ bs1, Fine d z := fun z hz => hok.2 z (by show z ∈ bs1 ++ m :: bs2; exact List.mem_append_left _ hz)
    have ho2 : ∀ z ∈ bs2, Fine d z := fun z hz => hok.2 z (by show z ∈ bs1 ++ m :: bs2; exact List.mem_append_right _ (List.mem_cons_of_mem _ hz))
    have hg : (bs1 ++ m :: bs2)[place (a ++ b) k]? = some m := by
      rw [hpl, hb1, List.getElem?_append_right (Nat.le_refl _), Nat.sub_self]; rfl
    rcases h2 with ⟨y, b', rfl, hy, h3⟩ | ⟨h3, h4⟩
    · have hf := found_yes (l := a ++ y :: b') rfl ha hy
      obtain ⟨F, hF⟩ := last_spec x0 d m hmo.1 (by have := hmo.2.1; omega)
      obtain ⟨i1, _, i3, i4, i5⟩ := drop_spec x0 d m (lastT x0 d m).k hmo.1 u4 hmo.2.2 (.inr (by have := hmo.2.1; omega))
      have e : dropT x0 (d + 1) ((a ++ y :: b', bs1 ++ m :: bs2) : Tr α (d + 1)) k = (fillT x0 d ((a ++ y :: b').set (place (a ++ y :: b') k) (lastT x0 d m)) ((bs1 ++ m :: bs2).set (place (a ++ y :: b') k) (dropT x0 d m (lastT x0 d m).k).1) (place (a ++ y :: b') k), some y.c) := by simp only [dropT, hf, hg]; rfl
      have e2 : (a ++ y :: b').set (place (a ++ y :: b') k) (lastT x0 d m) = a ++ lastT x0 d m :: b' := set_mid a b' y _ _ hpl.symm
      have e3 : (bs1 ++ m :: bs2).set (place (a ++ y :: b') k) (dropT x0 d m (lastT x0 d m).k).1 = bs1 ++ (dropT x0 d m (lastT x0 d m).k).1 :: bs2 := set_mid bs1 bs2 m _ _ (by rw [hpl]; exact hb1.symm)
      rw [e, e2, e3, hpl]
      obtain ⟨f1, f2, f3, f4⟩ := fill_spec x0 d a (lastT x0 d m :: b') bs1 bs2 (dropT x0 d m (lastT x0 d m).k).1 hb1 (by simpa using hb2) i3 (by have := hmo.2.1; omega) (by have := hmo.2.2; omega) ho1 ho2 (by simp; omega)
      obtain ⟨m2, bs3, rfl⟩ : ∃ m2 bs3, bs2 = m2 :: bs3 := by
        cases bs2 with
        | nil => simp at hb2
        | cons m2 bs3 => exact ⟨m2, bs3, rfl⟩
      have hq : postQ (y :: b') ((m2 :: bs3).map (flat d)) = y :: (flat d m2 ++ postQ b' (bs3.map (flat d))) := rfl
      rw [hq] at u5 u6 hfl
      obtain ⟨u7, _⟩ := List.pairwise_cons.1 u5
      rw [hF] at u4 u6 hfl
      have hlk : ∀ z ∈ F, z.k ≠ (lastT x0 d m).k := fun z hz => by
        have := (List.pairwise_append.1 u4).2.2 z hz _ (List.mem_singleton.2 rfl)
        omega
      have hdel : flat d (dropT x0 d m (lastT x0 d m).k).1 = F := by
        rw [i1, hF, del_at _ _ F [] rfl hlk (fun z hz => by simp at hz)]
        simp
      have hA : ∀ z ∈ preP a (bs1.map (flat d)) ++ (F ++ [lastT x0 d m]), z.k ≠ k := fun z hz => by
        rcases List.mem_append.1 hz with e | e
        · have := hp z e; omega
        · have := u6 z e y (by simp); omega
      have hB : ∀ z ∈ flat d m2 ++ postQ b' (bs3.map (flat d)), z.k ≠ k := fun z hz => by have := u7 z hz; omega
      refine ⟨?_, ?_, f2, ?_, ?_⟩
      · refine f1.trans ?_
        have k1 := flat_node (d := d) (a := a) (b := lastT x0 d m :: b') (m := (dropT x0 d m (lastT x0 d m).k).1) (bs2 := m2 :: bs3) hb1 (by simpa using hb2)
        rw [hfl, ← List.append_assoc, del_at k y _ _ hy hA hB]
        refine k1.trans ?_
        show _ ++ (flat d (dropT x0 d m (lastT x0 d m).k).1 ++ lastT x0 d m :: (flat d m2 ++ postQ b' (bs3.map (flat d)))) = _
        rw [hdel]
        simp
      · show some y.c = _
        rw [hfl, ← List.append_assoc, getC_at y _ _ k hy hA]
      · show (fillT x0 d (a ++ lastT x0 d m :: b') (bs1 ++ (dropT x0 d m (lastT x0 d m).k).1 :: m2 :: bs3) a.length).1.length ≤ (a ++ y :: b').length
        simp at f3 ⊢; omega
      · show (a ++ y :: b').length ≤ (fillT x0 d (a ++ lastT x0 d m :: b') (bs1 ++ (dropT x0 d m (lastT x0 d m).k).1 :: m2 :: bs3) a.length).1.length + 1
        simp at f4 ⊢; omega
    · have hf := found_no (l := a ++ b) rfl ha h3
      have hB := postQ_gt k b (bs2.map (flat d)) (by rw [List.length_map]; exact hb2) u5 h4
      obtain ⟨i1, i2, i3, i4, i5⟩ := drop_spec x0 d m k hmo.1 u4 hmo.2.2 (.inr (by have := hmo.2.1; omega))
      have e : dropT x0 (d + 1) ((a ++ b, bs1 ++ m :: bs2) : Tr α (d + 1)) k = (fillT x0 d (a ++ b) ((bs1 ++ m :: bs2).set (place (a ++ b) k) (dropT x0 d m k).1) (place (a ++ b) k), (dropT x0 d m k).2) := by simp only [dropT, hf, hg]; rfl
      have e3 : (bs1 ++ m :: bs2).set (place (a ++ b) k) (dropT x0 d m k).1 = bs1 ++ (dropT x0 d m k).1 :: bs2 := set_mid bs1 bs2 m _ _ (by rw [hpl]; exact hb1.symm)
      rw [e, e3, hpl]
      obtain ⟨f1, f2, f3, f4⟩ := fill_spec x0 d a b bs1 bs2 (dropT x0 d m k).1 hb1 hb2 i3 (by have := hmo.2.1; omega) (by have := hmo.2.2; omega) ho1 ho2 hne'
      have hA : ∀ z ∈ preP a (bs1.map (flat d)), z.k ≠ k := fun z hz => by have := hp z hz; omega
      have hB' : ∀ z ∈ postQ b (bs2.map (flat d)), z.k ≠ k := fun z hz => by have := hB z hz; omega
      refine ⟨?_, ?_, f2, f3, f4⟩
      · refine f1.trans ((flat_node hb1 hb2).trans ?_)
        rw [hfl, del_mid k _ _ _ hA hB', i1]
      · show (dropT x0 d m k).2 = _
        rw [hfl, getC_mid k _ _ _ hA hB', i2]
end
end Go.Proofs.Ytejpjbmbcdgomaa

/- A whole tree: set, dropped; how deep; a range. Pure. -/
namespace Go.Proofs.Ytejpjbmbcdgomaa
section
variable {α : Type}
structure Top (α : Type) where
  d : Nat
  t : Tr α d
def Top.items (T : Top α) : List (It α) := flat T.d T.t
structure TOk (T : Top α) : Prop where
  ok : Ok T.d T.t
  few : (its T.d T.t).length ≤ 5
  some : T.d = 0 ∨ 0 < (its T.d T.t).length
  up : Up T.items
def Top.new : Top α := ⟨0, ([] : List (It α))⟩
theorem TOk.new : TOk (Top.new : Top α) := ⟨trivial, Nat.zero_le _, .inl rfl, List.Pairwise.nil⟩
theorem Up.ins {l : List (It α)} (h : Up l) (x : It α) : Up (ins x l) := by
  unfold Up Go.Proofs.Ytejpjbmbcdgomaa.ins
  refine List.pairwise_append.2 ⟨h.sublist (List.filter_sublist), List.pairwise_cons.2 ⟨fun y hy => ?_, h.sublist (List.filter_sublist)⟩, fun y hy z hz => ?_⟩
  · simpa using (List.mem_filter.1 hy).2
  · have h1 : y.k < x.k := by simpa using (List.mem_filter.1 hy).2
    rcases List.mem_cons.1 hz with e | e
    · rw [e]; exact h1
    · have h2 : x.k < z.k := by simpa using (List.mem_filter.1 e).2
      omega
theorem Up.del {l : List (It α)} (h : Up l) (k : Int) : Up (del k l) := h.sublist List.filter_sublist
def Top.set (T : Top α) (x : It α) : Top α × Option α :=
  if 5 < (its T.d (setT T.d T.t x).1).length then (⟨T.d + 1, ([(splitT x T.d (setT T.d T.t x).1).2.1], [(splitT x T.d (setT T.d T.t x).1).1, (splitT x T.d (setT T.d T.t x).1).2.2])⟩, (setT T.d T.t x).2)
  else (⟨T.d, (setT T.d T.t x).1⟩, (setT T.d T.t x).2)
theorem top_set (T : Top α) (h : TOk T) (x : It α) : (T.set x).1.items = ins x T.items ∧ (T.set x).2 = getC x.k T.items ∧ TOk (T.set x).1 := by
  obtain ⟨s1, s2, s3, s4, s5⟩ := set_spec x T.d T.t h.ok h.up h.few
  have hu : Up (ins x T.items) := h.up.ins x
  have hfew := h.few
  unfold Top.set
  by_cases h6 : 5 < (its T.d (setT T.d T.t x).1).length
  · rw [if_pos h6]
    obtain ⟨p1, p2, p3, p4, p5⟩ := split_spec x T.d (setT T.d T.t x).1 s3 (by omega)
    generalize splitT x T.d (setT T.d T.t x).1 = p at p1 p2 p3 p4 p5
    obtain ⟨l, m, r⟩ := p
    dsimp only at p1 p2 p3 p4 p5 ⊢
    have e : Top.items ⟨T.d + 1, (([m], [l, r]) : Tr α (T.d + 1))⟩ = ins x T.items := by
      show weave [m] ([l, r].map (flat T.d)) = _
      rw [show weave [m] ([l, r].map (flat T.d)) = flat T.d l ++ m :: flat T.d r from rfl, p1, s1]
      rfl
    refine ⟨e, s2, ⟨⟨rfl, fun z hz => ?_⟩, by show 1 ≤ 5; omega, .inr (by show 0 < 1; omega), by rw [e]; exact hu⟩⟩
    have hz' : z ∈ [l, r] := hz
    simp at hz'
    rcases hz' with e | e
    · subst e; exact ⟨p2, by omega, by omega⟩
    · subst e; exact ⟨p3, by omega, by omega⟩
  · rw [if_neg h6]
    refine ⟨s1, s2, ⟨s3, by show (its T.d (setT T.d T.t x).1).length ≤ 5; omega, ?_, by show Up (flat T.d (setT T.d T.t x).1); rw [s1]; exact hu⟩⟩
    rcases h.some with e | e
    · exact .inl e
    · exact .inr (by show 0 < (its T.d (setT T.d T.t x).1).length; omega)
/-- The tree without its topmost node, where that has no item. -/
def cutTop : (d : Nat) → Tr α d → Top α
  | 0, t => ⟨0, t⟩
  | d + 1, t => if t.1.length = 0 then ⟨d, t.2.headD (emptyT d)⟩ else ⟨d + 1, t⟩
def Top.drop (T : Top α) (x0 : It α) (k : Int) : Top α × Option α := (cutTop T.d (dropT x0 T.d T.t k).1, (dropT x0 T.d T.t k).2)
theorem cut_spec : ∀ (d : Nat) (t : Tr α d), Ok d t → (its d t).length ≤ 5 → Up (flat d t) → (cutTop d t).items = flat d t ∧ TOk (cutTop d t)
  | 0, t, h1, h2, h3 => ⟨rfl, ⟨h1, h2, .inl rfl, h3⟩⟩
  | d + 1, (is, bs), h1, h2, h3 => by
    have hl : bs.length = is.length + 1 := h1.1
    by_cases e : is.length = 0
    · have hc : cutTop (d + 1) ((is, bs) : Tr α (d + 1)) = ⟨d, bs.headD (emptyT d)⟩ := by
        show (if is.length = 0 then _ else _) = _
        rw [if_pos e]
      have hi : is = [] := List.eq_nil_of_length_eq_zero e
      subst hi
      obtain ⟨b, rfl⟩ : ∃ b, bs = [b] := by
        match bs, hl with
        | [b], _ => exact ⟨b, rfl⟩
      rw [hc]
      have hb := h1.2 b (by show b ∈ [b]; simp)
      have hf : flat (d + 1) (([], [b]) : Tr α (d + 1)) = flat d b := rfl
      exact ⟨hf.symm, ⟨hb.1, hb.2.2, .inr (by show 0 < (its d b).length; omega), by rw [hf] at h3; exact h3⟩⟩
    · have hc : cutTop (d + 1) ((is, bs) : Tr α (d + 1)) = ⟨d + 1, (is, bs)⟩ := by
        show (if is.length = 0 then _ else _) = _
        rw [if_neg e]
      rw [hc]
      exact ⟨rfl, ⟨h1, h2, .inr (by show 0 < is.length; omega), h3⟩⟩
theorem top_drop (T : Top α) (h : TOk T) (x0 : It α) (k : Int) : (T.drop x0 k).1.items = del k T.items ∧ (T.drop x0 k).2 = getC k T.items ∧ TOk (T.drop x0 k).1 := by
  obtain ⟨s1, s2, s3, s4, s5⟩ := drop_spec x0 T.d T.t k h.ok h.up h.few h.some
  have hu : Up (flat T.d (dropT x0 T.d T.t k).1) := by rw [s1]; exact h.up.del k
  obtain ⟨c1, c2⟩ := cut_spec T.d _ s3 (by have := h.few; omega) hu
  exact ⟨c1.trans s1, s2, c2⟩
/-- Each node holds two at least: how many there are by the depth. -/
theorem deep_few : ∀ (d : Nat) (t : Tr α d), Ok d t → 2 ≤ (its d t).length → 3 ^ (d + 1) ≤ (flat d t).length + 1
  | 0, t, _, h => by
    have : 2 ≤ (flat 0 t).length := h
    omega
  | d + 1, (is, bs), hok, h => by
    have hl : bs.length = is.length + 1 := hok.1
    have h' : 2 ≤ is.length := h
    have key : ∀ (is : List (It α)) (bs : List (Tr α d)), bs.length = is.length + 1 → (∀ b ∈ bs, 3 ^ (d + 1) ≤ (flat d b).length + 1) → bs.length * 3 ^ (d + 1) ≤ (weave is (bs.map (flat d))).length + 1 := by
      intro is
      induction is with
      | nil =>
        intro bs hl hb
        obtain ⟨b, rfl⟩ : ∃ b, bs = [b] := by
          match bs, hl with
          | [b], _ => exact ⟨b, rfl⟩
        have := hb b (by simp)
        simpa [weave] using this
      | cons x is ih =>
        intro bs hl hb
        match bs, hl with
        | b :: bs, hl =>
          have h1 := ih bs (by simpa using hl) (fun z hz => hb z (List.mem_cons_of_mem _ hz))
          have h2 := hb b (by simp)
          simp only [List.map_cons, weave, List.length_append, List.length_cons, Nat.succ_mul]
          omega
    have h3 := key is bs hl fun b hb => deep_few d b (hok.2 b hb).1 (hok.2 b hb).2.1
    have h4 : 3 * 3 ^ (d + 1) ≤ bs.length * 3 ^ (d + 1) := Nat.mul_le_mul_right _ (by omega)
    show 3 ^ (d + 1 + 1) ≤ (weave is (bs.map (flat d))).length + 1
    rw [Nat.pow_succ]
    omega
theorem top_deep (T : Top α) (h : TOk T) (hd : 0 < T.d) : 2 * 3 ^ T.d ≤ T.items.length + 1 := by
  obtain ⟨d, t⟩ := T
  cases d with
  | zero => exact absurd hd (Nat.lt_irrefl _)
  | succ d =>
    obtain ⟨is, bs⟩ := t
    have hl : bs.length = is.length + 1 := h.ok.1
    have hp : 0 < is.length := h.some.resolve_left (by show ¬ d + 1 = 0; omega)
    have key : ∀ (is : List (It α)) (bs : List (Tr α d)), bs.length = is.length + 1 → (∀ b ∈ bs, 3 ^ (d + 1) ≤ (flat d b).length + 1) → bs.length * 3 ^ (d + 1) ≤ (weave is (bs.map (flat d))).length + 1 := by
      intro is
      induction is with
      | nil =>
        intro bs hl hb
        obtain ⟨b, rfl⟩ : ∃ b, bs = [b] := by
          match bs, hl with
          | [b], _ => exact ⟨b, rfl⟩
        have := hb b (by simp)
        simpa [weave] using this
      | cons x is ih =>
        intro bs hl hb
        match bs, hl with
        | b :: bs, hl =>
          have h1 := ih bs (by simpa using hl) (fun z hz => hb z (List.mem_cons_of_mem _ hz))
          have h2 := hb b (by simp)
          simp only [List.map_cons, weave, List.length_append, List.length_cons, Nat.succ_mul]
          omega
    have h3 := key is bs hl fun b hb => deep_few d b (h.ok.2 b hb).1 (h.ok.2 b hb).2.1
    have h4 : 2 * 3 ^ (d + 1) ≤ bs.length * 3 ^ (d + 1) := Nat.mul_le_mul_right _ (by omega)
    show 2 * 3 ^ (d + 1) ≤ (weave is (bs.map (flat d))).length + 1
    omega
end
end Go.Proofs.Ytejpjbmbcdgomaa

/- A tree: what is got, a range; the document's list. Pure. -/
namespace Go.Proofs.Ytejpjbmbcdgomaa
section
variable {α : Type}
/-- From one number to another one. -/
def rng (lo hi : Int) (l : List (It α)) : List (It α) := l.filter fun y => decide (lo ≤ y.k) && decide (y.k ≤ hi)
theorem rng_append (lo hi : Int) (a b : List (It α)) : rng lo hi (a ++ b) = rng lo hi a ++ rng lo hi b := List.filter_append ..
theorem rng_low (lo hi : Int) (l : List (It α)) (h : ∀ y ∈ l, y.k < lo) : rng lo hi l = [] := filter_none fun y hy => by have := h y hy; simp; omega
theorem rng_high (lo hi : Int) (l : List (It α)) (h : ∀ y ∈ l, hi < y.k) : rng lo hi l = [] := filter_none fun y hy => by have := h y hy; simp; omega
def getT : (d : Nat) → Tr α d → Int → Option α
  | 0, l, k => (foundAt l k).map It.c
  | d + 1, t, k => match foundAt t.1 k with
    | some y => some y.c
    | none => match t.2[place t.1 k]? with
      | none => none
      | some b => getT d b k
theorem get_spec : ∀ (d : Nat) (t : Tr α d) (k : Int), Ok d t → Up (flat d t) → getT d t k = getC k (flat d t)
  | 0, l, k, _, hu => by
    have hu' : Up (α := α) l := hu
    obtain ⟨a, b, hl, ha, h1, h2⟩ := place_cut hu' k
    show (foundAt (α := α) l k).map It.c = getC k l
    rcases h2 with ⟨y, b', rfl, hy, h3⟩ | ⟨h3, h4⟩
    · rw [found_yes hl ha hy, hl, getC_at y a b' k hy (fun z hz => by have := h1 z hz; omega)]; rfl
    · rw [found_no hl ha h3, hl, getC_none]
      · rfl
      · intro z hz
        rcases List.mem_append.1 hz with e | e
        · have := h1 z e; omega
        · have := h4 z e; omega
  | d + 1, t, k, hok, hu => by
    have hui : Up t.1 := hu.sub (weave_sub t.1 (t.2.map (flat d)) (ok_its hok))
    obtain ⟨a, b, hl, ha, h1, h2⟩ := place_cut hui k
    obtain ⟨bs1, m, bs2, rfl, hb1, hb2⟩ := node_cut hok hl
    have hfl := flat_node (d := d) (a := a) (b := b) (m := m) hb1 hb2
    rw [hfl] at hu
    obtain ⟨u1, u2, u3⟩ := List.pairwise_append.1 hu
    obtain ⟨u4, u5, u6⟩ := List.pairwise_append.1 u2
    have hp := preP_lt k a (bs1.map (flat d)) (by rw [List.length_map]; exact hb1) u1 h1
    have hpl : place (a ++ b) k = a.length := ha.symm
    have hmo : Fine d m := hok.2 m (by show m ∈ bs1 ++ m :: bs2; simp)
    have hg : (bs1 ++ m :: bs2)[place (a ++ b) k]? = some m := by
      rw [hpl, hb1, List.getElem?_append_right (Nat.le_refl _), Nat.sub_self]; rfl
    rcases h2 with ⟨y, b', rfl, hy, h3⟩ | ⟨h3, h4⟩
    · have hf := found_yes (l := a ++ y :: b') rfl ha hy
      have e : getT (d + 1) ((a ++ y :: b', bs1 ++ m :: bs2) : Tr α (d + 1)) k = some y.c := by simp only [getT, hf]
      obtain ⟨m2, bs3, rfl⟩ : ∃ m2 bs3, bs2 = m2 :: bs3 := by
        cases bs2 with
        | nil => simp at hb2
        | cons m2 bs3 => exact ⟨m2, bs3, rfl⟩
      have hq : postQ (y :: b') ((m2 :: bs3).map (flat d)) = y :: (flat d m2 ++ postQ b' (bs3.map (flat d))) := rfl
      rw [hq] at u6 hfl
      rw [e, hfl, ← List.append_assoc, getC_at y _ _ k hy]
      intro z hz
      rcases List.mem_append.1 hz with e | e
      · have := hp z e; omega
      · have := u6 z e y (by simp); omega
    · have hf := found_no (l := a ++ b) rfl ha h3
      have hB := postQ_gt k b (bs2.map (flat d)) (by rw [List.length_map]; exact hb2) u5 h4
      have e : getT (d + 1) ((a ++ b, bs1 ++ m :: bs2) : Tr α (d + 1)) k = getT d m k := by simp only [getT, hf, hg]
      rw [e, get_spec d m k hmo.1 u4, hfl, getC_mid k _ _ _ (fun z hz => by have := hp z hz; omega) (fun z hz => by have := hB z hz; omega)]
/-- What a node shows from a place on. -/
def walkN {β : Type} (f : β → List (It α)) (hi : Int) : List (It α) → List β → List (It α)
  | [], b :: _ => f b
  | x :: is, b :: bs => f b ++ (if hi < x.k then [] else x :: walkN f hi is bs)
  | _, [] => []
def walkT (lo hi : Int) : (d : Nat) → Tr α d → List (It α)
  | 0, l => List.takeWhile (α := It α) (fun y => decide (y.k ≤ hi)) (List.drop (α := It α) (place l lo) l)
  | d + 1, t => walkN (walkT lo hi d) hi (t.1.drop (place t.1 lo)) (t.2.drop (place t.1 lo))
theorem walkN_spec {d : Nat} (f : Tr α d → List (It α)) (lo hi : Int) : ∀ (is : List (It α)) (bs : List (Tr α d)), bs.length = is.length + 1 → Up (weave is (bs.map (flat d))) → (∀ x ∈ is, lo ≤ x.k) → (∀ b ∈ bs, f b = rng lo hi (flat d b)) → walkN f hi is bs = rng lo hi (weave is (bs.map (flat d)))
  | [], [], h, _, _, _ => by simp at h
  | [], [b], _, _, _, hf => by simpa [walkN, weave] using hf b (by simp)
  | [], _ :: _ :: _, h, _, _, _ => by simp at h
  | _ :: _, [], h, _, _, _ => by simp at h
  | x :: is, b :: bs, h, hu, hlo, hf => by
    rw [List.map_cons, weave] at hu ⊢
    obtain ⟨_, u2, _⟩ := List.pairwise_append.1 hu
    obtain ⟨u3, u4⟩ := List.pairwise_cons.1 u2
    rw [walkN, rng_append, hf b (by simp)]
    congr 1
    have hx := hlo x (by simp)
    by_cases e : hi < x.k
    · rw [if_pos e]
      refine (rng_high lo hi _ fun y hy => ?_).symm
      rcases List.mem_cons.1 hy with e2 | e2
      · rw [e2]; exact e
      · have := u3 y e2; omega
    · rw [if_neg e, walkN_spec f lo hi is bs (by simpa using h) u4 (fun z hz => hlo z (List.mem_cons_of_mem _ hz)) (fun z hz => hf z (List.mem_cons_of_mem _ hz))]
      unfold rng
      rw [List.filter_cons_of_pos (by simp; omega)]
theorem takeW (hi : Int) : ∀ (l : List (It α)) (lo : Int), Up l → (∀ x ∈ l, lo ≤ x.k) → l.takeWhile (fun y => decide (y.k ≤ hi)) = rng lo hi l
  | [], _, _, _ => rfl
  | x :: l, lo, hu, hlo => by
    obtain ⟨u1, u2⟩ := List.pairwise_cons.1 hu
    have hx := hlo x (by simp)
    by_cases e : x.k ≤ hi
    · rw [List.takeWhile_cons_of_pos (by simpa using e), takeW hi l lo u2 (fun z hz => hlo z (List.mem_cons_of_mem _ hz))]
      unfold rng
      rw [List.filter_cons_of_pos (by simp; omega)]
    · rw [List.takeWhile_cons_of_neg (by simpa using e)]
      refine (rng_high lo hi _ fun y hy => ?_).symm
      rcases List.mem_cons.1 hy with e2 | e2
      · rw [e2]; omega
      · have := u1 y e2; omega
theorem walk_spec (lo hi : Int) : ∀ (d : Nat) (t : Tr α d), Ok d t → Up (flat d t) → walkT lo hi d t = rng lo hi (flat d t)
  | 0, l, _, hu => by
    have hu' : Up (α := α) l := hu
    obtain ⟨h1, h2⟩ := place_take (α := α) l lo hu'
    have e : flat 0 l = List.take (α := It α) (place l lo) l ++ List.drop (α := It α) (place l lo) l := (List.take_append_drop _ _).symm
    show List.takeWhile (α := It α) _ _ = _
    rw [takeW hi _ lo (hu'.sub (List.drop_sublist _ _)) h2, e, rng_append, rng_low lo hi _ h1]
    rfl
  | d + 1, t, hok, hu => by
    have hui : Up t.1 := hu.sub (weave_sub t.1 (t.2.map (flat d)) (ok_its hok))
    obtain ⟨h1, h2⟩ := place_take t.1 lo hui
    have hl : t.1 = t.1.take (place t.1 lo) ++ t.1.drop (place t.1 lo) := (List.take_append_drop _ _).symm
    have hpl : (t.1.take (place t.1 lo)).length = place t.1 lo := by rw [List.length_take]; exact Nat.min_eq_left (place_le _ _)
    show walkN (walkT lo hi d) hi (t.1.drop (place t.1 lo)) (t.2.drop (place t.1 lo)) = _
    generalize t.1.take (place t.1 lo) = a at h1 hl hpl
    generalize t.1.drop (place t.1 lo) = b at h2 hl
    generalize place t.1 lo = i at hpl
    obtain ⟨bs1, m, bs2, rfl, hb1, hb2⟩ := node_cut hok hl
    have hfl := flat_node (d := d) (a := a) (b := b) (m := m) hb1 hb2
    have hd : (bs1 ++ m :: bs2).drop i = m :: bs2 := by rw [← hpl, hb1]; simp
    show walkN (walkT lo hi d) hi b ((bs1 ++ m :: bs2).drop i) = _
    rw [hd]
    rw [hfl] at hu
    obtain ⟨u1, u2, _⟩ := List.pairwise_append.1 hu
    have hw : weave b ((m :: bs2).map (flat d)) = flat d m ++ postQ b (bs2.map (flat d)) := weave_head b _ _ (by rw [List.length_map]; exact hb2)
    have hfine : ∀ z ∈ m :: bs2, Fine d z := fun z hz => hok.2 z (by show z ∈ bs1 ++ m :: bs2; exact List.mem_append_right _ hz)
    have hsub : ∀ z ∈ m :: bs2, Up (flat d z) := by
      rw [← hw] at u2
      have key : ∀ (is : List (It α)) (cs : List (Tr α d)), cs.length = is.length + 1 → Up (weave is (cs.map (flat d))) → ∀ z ∈ cs, Up (flat d z) := by
        intro is
        induction is with
        | nil =>
          intro cs hl hu z hz
          obtain ⟨c, rfl⟩ : ∃ c, cs = [c] := by
            match cs, hl with
            | [c], _ => exact ⟨c, rfl⟩
          rw [List.mem_singleton.1 hz]
          simpa [weave] using hu
        | cons x is ih =>
          intro cs hl hu z hz
          match cs, hl with
          | c :: cs, hl =>
            rw [List.map_cons, weave] at hu
            obtain ⟨v1, v2, _⟩ := List.pairwise_append.1 hu
            rcases List.mem_cons.1 hz with e | e
            · rw [e]; exact v1
            · exact ih cs (by simpa using hl) (List.pairwise_cons.1 v2).2 z e
      exact key b (m :: bs2) (by simp; omega) u2
    rw [walkN_spec (walkT lo hi d) lo hi b (m :: bs2) (by simp; omega) (by rw [hw]; exact u2) h2 (fun z hz => walk_spec lo hi d z (hfine z hz).1 (hsub z hz)), hw, hfl, rng_append lo hi (preP a (bs1.map (flat d))), rng_low lo hi _ (preP_lt lo a (bs1.map (flat d)) (by rw [List.length_map]; exact hb1) u1 h1)]
    rfl
/-- The document's set. -/
def setR (x : It α) : Bool → List (It α) → List (It α)
  | done, [] => if done then [] else [x]
  | done, y :: l => (if !done && decide (x.k ≤ y.k) then [x] else []) ++ ((if y.k = x.k then [] else [y]) ++ setR x (done || decide (x.k ≤ y.k)) l)
theorem setR_done (x : It α) : ∀ (l : List (It α)), (∀ y ∈ l, x.k < y.k) → setR x true l = l
  | [], _ => rfl
  | y :: l, h => by
    have hy := h y (by simp)
    rw [setR]
    simp only [Bool.not_true, Bool.false_and, Bool.true_or]
    rw [setR_done x l fun z hz => h z (List.mem_cons_of_mem _ hz), if_neg (show ¬ y.k = x.k by omega)]
    rfl
theorem setR_spec (x : It α) : ∀ (l : List (It α)), Up l → setR x false l = ins x l
  | [], _ => rfl
  | y :: l, hu => by
    obtain ⟨u1, u2⟩ := List.pairwise_cons.1 hu
    rw [setR]
    by_cases h1 : x.k ≤ y.k
    · have hl : ∀ z ∈ l, x.k < z.k := fun z hz => by have := u1 z hz; omega
      have e1 : l.filter (fun z => decide (z.k < x.k)) = [] := filter_none fun z hz => decide_eq_false (by have := hl z hz; omega)
      have e2 : l.filter (fun z => decide (x.k < z.k)) = l := filter_all fun z hz => decide_eq_true (hl z hz)
      simp only [Bool.not_false, Bool.true_and, decide_eq_true h1, if_true, Bool.false_or]
      rw [setR_done x l hl]
      unfold ins
      rw [List.filter_cons_of_neg (by simp; omega), e1]
      by_cases h2 : y.k = x.k
      · rw [if_pos h2, List.filter_cons_of_neg (by simp; omega), e2]; rfl
      · rw [if_neg h2, List.filter_cons_of_pos (by simp; omega), e2]; rfl
    · have h2 : ¬ y.k = x.k := by omega
      simp only [decide_eq_false h1, Bool.and_false, Bool.or_false]
      rw [if_neg h2, setR_spec x l u2]
      unfold ins
      rw [List.filter_cons_of_pos (by simp; omega), List.filter_cons_of_neg (by simp; omega)]
      rfl
end
end Go.Proofs.Ytejpjbmbcdgomaa
