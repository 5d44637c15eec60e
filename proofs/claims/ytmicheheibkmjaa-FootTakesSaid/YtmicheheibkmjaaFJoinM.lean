/- Keys in order, spans in order: such a list is told by what is in it; how one more comes in. -/
import Derived.Test.YtmicheheibkmjaaFKey
namespace Go.Proofs.Ytmicheheibkmjaa
def ltK (x y : K) : Prop := x.t < y.t ∨ (x.t = y.t ∧ x.k < y.k)
theorem ltK.trans {x y z : K} (h : ltK x y) (g : ltK y z) : ltK x z := by unfold ltK at *; omega
theorem ltK.irrefl (x : K) : ¬ ltK x x := by unfold ltK; omega
theorem ltK.tri (x y : K) : ltK x y ∨ x = y ∨ ltK y x := by
  have h : x = y ↔ x.t = y.t ∧ x.k = y.k := by cases x; cases y; simp
  rw [h]; unfold ltK; omega
/-- Keys that rise are told by what is in them. -/
theorem keys_same : ∀ (l m : List K), l.Pairwise ltK → m.Pairwise ltK → (∀ x, x ∈ l ↔ x ∈ m) → l = m
  | [], [], _, _, _ => rfl
  | [], y :: m, _, _, h => absurd ((h y).2 (by simp)) (by simp)
  | x :: l, [], _, _, h => absurd ((h x).1 (by simp)) (by simp)
  | x :: l, y :: m, hl, hm, h => by
    rw [List.pairwise_cons] at hl hm
    have e : x = y := by
      rcases ltK.tri x y with q | q | q
      · rcases List.mem_cons.1 ((h x).1 (by simp)) with r | r
        · exact r
        · exact absurd (q.trans (hm.1 x r)) (ltK.irrefl _)
      · exact q
      · rcases List.mem_cons.1 ((h y).2 (by simp)) with r | r
        · exact r.symm
        · exact absurd (q.trans (hl.1 y r)) (ltK.irrefl _)
    subst e
    rw [keys_same l m hl.2 hm.2 fun z => ?_]
    constructor
    · intro hz
      rcases List.mem_cons.1 ((h z).1 (List.mem_cons_of_mem _ hz)) with r | r
      · exact absurd (hl.1 z hz) (r ▸ ltK.irrefl _)
      · exact r
    · intro hz
      rcases List.mem_cons.1 ((h z).2 (List.mem_cons_of_mem _ hz)) with r | r
      · exact absurd (hm.1 z hz) (r ▸ ltK.irrefl _)
      · exact r
/-- What is behind a key, but for what is the same as what stands ahead of it. -/
def dd : K → List K → List K
  | _, [] => []
  | p, x :: l => if x = p then dd p l else x :: dd x l
/-- The keys but for those that stand behind themselves. -/
def dedup : List K → List K
  | [] => []
  | [x] => [x]
  | x :: y :: l => if x = y then dedup (y :: l) else x :: dedup (y :: l)
theorem dedup_mem : ∀ (l : List K) (x : K), x ∈ dedup l ↔ x ∈ l
  | [], x => by simp [dedup]
  | [y], x => by simp [dedup]
  | y :: z :: l, x => by
    unfold dedup
    split
    · rename_i e
      rw [dedup_mem (z :: l) x, e]; simp
    · rw [List.mem_cons, dedup_mem (z :: l) x, List.mem_cons (l := z :: l)]
theorem dedup_dd : ∀ (l : List K) (x : K), dedup (x :: l) = x :: dd x l
  | [], x => rfl
  | y :: l, x => by
    unfold dedup dd
    by_cases h : x = y
    · subst h
      rw [if_pos rfl, if_pos rfl, dedup_dd l x]
    · rw [if_neg h, if_neg (fun q => h q.symm), dedup_dd l y]
theorem dd_snoc : ∀ (l : List K) (p y : K), dd p (l ++ [y]) = dd p l ++ (if y = (p :: l).getLast (by simp) then [] else [y])
  | [], p, y => by by_cases e : y = p <;> simp [dd, e]
  | x :: l, p, y => by
    rw [List.cons_append]
    unfold dd
    by_cases h : x = p
    · subst h
      rw [if_pos rfl, if_pos rfl, dd_snoc l x y]
      by_cases e : y = (x :: l).getLast (by simp) <;> simp [e]
    · rw [if_neg h, if_neg h, dd_snoc l x y]
      by_cases e : y = (x :: l).getLast (by simp) <;> simp [e]
theorem dedup_take (l : List K) (i : Nat) (h0 : 1 ≤ i) (hi : i < l.length) : dedup (l.take (i + 1)) = dedup (l.take i) ++ (if l[i] = l[i - 1] then [] else [l[i]]) := by
  obtain ⟨x, t, rfl⟩ : ∃ x t, l = x :: t := by cases l with | nil => simp at hi | cons x t => exact ⟨x, t, rfl⟩
  obtain ⟨q, rfl⟩ : ∃ q, i = q + 1 := ⟨i - 1, by omega⟩
  have hq : q < t.length := by simpa using hi
  rw [List.take_succ_cons, List.take_succ_cons, dedup_dd, dedup_dd, List.take_succ_eq_append_getElem hq, dd_snoc, List.cons_append]
  congr 2
  have e : (x :: t.take q).getLast (by simp) = (x :: t)[q + 1 - 1] := by
    rw [List.getLast_eq_getElem]
    rcases q with _ | q
    · simp
    · simp [List.length_take, Nat.min_eq_left (Nat.le_of_lt hq)]
  rw [e]
  simp
theorem dedup_none (l : List K) : ∀ (i : Nat), i ≤ l.length → (∀ j, 1 ≤ j → (hj : j < i) → ∀ (h : j < l.length), l[j] ≠ l[j - 1]) → dedup (l.take i) = l.take i
  | 0, _, _ => by simp [dedup]
  | 1, h, _ => by
    cases l with
    | nil => simp [dedup]
    | cons x t => simp [dedup]
  | i + 2, h, hn => by
    have hi : i + 1 < l.length := by omega
    rw [dedup_take l (i + 1) (by omega) hi, if_neg (hn (i + 1) (by omega) (by omega) hi), dedup_none l (i + 1) (by omega) (fun j h1 h2 h3 => hn j h1 (by omega) h3)]
    rw [List.take_succ_eq_append_getElem hi]
theorem dedup_length : ∀ (l : List K), (dedup l).length ≤ l.length
  | [] => by simp [dedup]
  | [_] => by simp [dedup]
  | y :: z :: l => by
    have := dedup_length (z :: l)
    unfold dedup
    split
    · simp at this ⊢; omega
    · simp at this ⊢; omega
def leK (x y : K) : Prop := ¬ ltK y x
theorem dedup_rises : ∀ (l : List K), l.Pairwise leK → (dedup l).Pairwise ltK
  | [], _ => by simp [dedup]
  | [y], _ => by simp [dedup]
  | y :: z :: l, h => by
    unfold dedup
    rw [List.pairwise_cons] at h
    split
    · exact dedup_rises (z :: l) h.2
    · rename_i e
      rw [List.pairwise_cons]
      refine ⟨fun x hx => ?_, dedup_rises (z :: l) h.2⟩
      rw [dedup_mem] at hx
      have h1 := h.1 z (by simp)
      have hyz : ltK y z := by
        rcases ltK.tri y z with q | q | q
        · exact q
        · exact absurd q e
        · exact absurd q h1
      rcases List.mem_cons.1 hx with r | r
      · rw [r]; exact hyz
      · have h2 := (List.pairwise_cons.1 h.2).1 x r
        rcases ltK.tri z x with q | q | q
        · exact hyz.trans q
        · rw [← q]; exact hyz
        · exact absurd q h2
/-- The document's insert. -/
theorem lessK_iff (x y : K) : lessK x y = true ↔ ltK x y := by simp [lessK, ltK]
def insA (k : K) : List K → Bool → List K
  | [], d => if d then [] else [k]
  | x :: l, d =>
    let d' := d || !lessK x k
    (if !d && !lessK x k then [k] else []) ++ (if x = k then [] else [x]) ++ insA k l d'
theorem insA_true (k : K) : ∀ (l : List K), insA k l true = l.filter (fun x => !decide (x = k))
  | [] => rfl
  | x :: l => by
    simp only [insA, Bool.true_or, Bool.not_true, Bool.false_and, Bool.false_eq_true, if_false, List.nil_append, insA_true k l]
    by_cases h : x = k <;> simp [h]
theorem insA_mem (k : K) : ∀ (l : List K) (d : Bool) (x : K), x ∈ insA k l d ↔ (x = k ∧ d = false) ∨ (x ∈ l ∧ x ≠ k)
  | [], d, x => by cases d <;> simp [insA]
  | y :: l, d, x => by
    unfold insA
    simp only [List.mem_append]
    rw [insA_mem k l _ x]
    by_cases f : x = k
    · subst f
      by_cases e : x = y
      · subst e; cases d <;> cases lessK x x <;> simp
      · cases d <;> cases lessK y x <;> simp [e]
    · by_cases e : y = k
      · subst e
        cases d <;> cases lessK y y <;> simp [f]
      · cases d <;> cases lessK y k <;> simp [e, f]
theorem insA_rises (k : K) : ∀ (l : List K) (d : Bool), l.Pairwise ltK → (d = true → ∀ x ∈ l, ¬ ltK x k) → (insA k l d).Pairwise ltK
  | [], d, _, _ => by cases d <;> simp [insA]
  | y :: l, d, h, hd => by
    rw [List.pairwise_cons] at h
    by_cases hy : lessK y k = true
    · have hlt := (lessK_iff _ _).1 hy
      have hd0 : d = false := by
        cases d with
        | false => rfl
        | true => exact absurd hlt (hd rfl y (by simp))
      subst hd0
      have e : y ≠ k := fun e => ltK.irrefl k (e ▸ hlt)
      unfold insA
      simp only [hy, e, Bool.not_true, Bool.and_false, Bool.or_false, Bool.false_eq_true, if_false, List.nil_append, List.singleton_append]
      rw [List.pairwise_cons]
      refine ⟨fun x hx => ?_, insA_rises k l false h.2 (by simp)⟩
      rw [insA_mem] at hx
      rcases hx with ⟨rfl, _⟩ | ⟨hx, _⟩
      · exact hlt
      · exact h.1 x hx
    · have hge : ¬ ltK y k := fun q => hy ((lessK_iff _ _).2 q)
      have hall : ∀ x ∈ l, ¬ ltK x k := fun x hx q => hge ((h.1 x hx).trans q)
      have hr := insA_rises k l true h.2 (fun _ => hall)
      have hmem : ∀ x ∈ insA k l true, x ∈ l ∧ x ≠ k := fun x hx => by
        rw [insA_mem] at hx
        rcases hx with ⟨_, q⟩ | q
        · cases q
        · exact q
      have hn : lessK y k = false := by cases q : lessK y k; rfl; exact absurd q hy
      have base : ((if y = k then [] else [y]) ++ insA k l true).Pairwise ltK := by
        by_cases e : y = k
        · simpa [e] using hr
        · simp only [e, if_false, List.singleton_append, List.pairwise_cons]
          exact ⟨fun x hx => h.1 x (hmem x hx).1, hr⟩
      have hkl : ∀ x ∈ ((if y = k then [] else [y]) ++ insA k l true), ltK k x := fun x hx => by
        rw [List.mem_append] at hx
        rcases hx with hx | hx
        · by_cases e : y = k
          · simp [e] at hx
          · simp [e] at hx
            subst hx
            rcases ltK.tri x k with q | q | q
            · exact absurd q hge
            · exact absurd q e
            · exact q
        · obtain ⟨hx, hk⟩ := hmem x hx
          rcases ltK.tri x k with q | q | q
          · exact absurd q (hall x hx)
          · exact absurd q hk
          · exact q
      unfold insA
      cases d
      · simp only [hn, Bool.not_false, Bool.and_true, Bool.or_true, if_true, List.cons_append, List.append_assoc]
        rw [List.pairwise_cons]
        exact ⟨hkl, base⟩
      · simp only [hn, Bool.not_false, Bool.not_true, Bool.false_and, Bool.or_true, if_false, Bool.false_eq_true, List.nil_append]
        exact base
def ins (l : List K) (k : K) : List K := insA k l false
theorem ins_mem (l : List K) (k x : K) : x ∈ ins l k ↔ x = k ∨ x ∈ l := by
  unfold ins
  rw [insA_mem]
  by_cases h : x = k <;> simp [h]
theorem ins_rises {l : List K} (h : l.Pairwise ltK) (k : K) : (ins l k).Pairwise ltK := insA_rises k l false h (by simp)
/-- All of them, one after another. -/
def insAll (l m : List K) : List K := m.foldl ins l
theorem insAll_rises : ∀ (m l : List K), l.Pairwise ltK → (insAll l m).Pairwise ltK
  | [], _, h => h
  | k :: m, l, h => insAll_rises m (ins l k) (ins_rises h k)
theorem insAll_mem : ∀ (m l : List K) (x : K), x ∈ insAll l m ↔ x ∈ l ∨ x ∈ m
  | [], l, x => by simp [insAll]
  | k :: m, l, x => by
    show x ∈ insAll (ins l k) m ↔ _
    rw [insAll_mem m (ins l k) x, ins_mem, List.mem_cons]
    constructor
    · rintro ((h | h) | h) <;> simp [h]
    · rintro (h | h | h) <;> simp [h]
/-- Sorted and each once, or one after another: the same. -/
theorem keys_join {l s : List K} (hp : ∀ x, x ∈ s ↔ x ∈ l) (hs : s.Pairwise leK) : dedup s = insAll [] l :=
  keys_same _ _ (dedup_rises s hs) (insAll_rises l [] (by simp)) fun x => by rw [dedup_mem, hp, insAll_mem]; simp

/-- One span lies behind another one, with a number of no one between. -/
def ap (a b : Sp) : Prop := a.t < b.t ∨ (a.t = b.t ∧ a.hi + 1 < b.lo)
instance (a b : Sp) : Decidable (ap a b) := by unfold ap; infer_instance
def inS (x : Sp) (t n : Int) : Prop := x.t = t ∧ x.lo ≤ n ∧ n ≤ x.hi
def cov (l : List Sp) (t n : Int) : Prop := ∃ x ∈ l, inS x t n
structure Canon (l : List Sp) : Prop where
  ap : l.Pairwise ap
  ne : ∀ x ∈ l, x.lo ≤ x.hi
theorem Canon.tail {x : Sp} {l : List Sp} (h : Canon (x :: l)) : Canon l := ⟨(List.pairwise_cons.1 h.ap).2, fun y hy => h.ne y (List.mem_cons_of_mem _ hy)⟩
theorem Canon.head {x : Sp} {l : List Sp} (h : Canon (x :: l)) : ∀ y ∈ l, Go.Proofs.Ytmicheheibkmjaa.ap x y := (List.pairwise_cons.1 h.ap).1
theorem cov_cons (x : Sp) (l : List Sp) (t n : Int) : cov (x :: l) t n ↔ inS x t n ∨ cov l t n := by simp [cov]
theorem cov_append (l m : List Sp) (t n : Int) : cov (l ++ m) t n ↔ cov l t n ∨ cov m t n := by
  simp only [cov, List.mem_append, or_and_right, exists_or]
theorem cov_one (x : Sp) (t n : Int) : cov [x] t n ↔ inS x t n := by simp [cov]
/-- What is first of spans in order. -/
theorem Canon.first {x : Sp} {l : List Sp} (h : Canon (x :: l)) {t n : Int} (hc : cov (x :: l) t n) : x.t < t ∨ (x.t = t ∧ x.lo ≤ n) := by
  obtain ⟨y, hy, h1, h2, h3⟩ := hc
  rcases List.mem_cons.1 hy with r | r
  · subst r; exact Or.inr ⟨h1, h2⟩
  · have hx := h.ne x (by simp)
    have := h.head y r
    unfold Go.Proofs.Ytmicheheibkmjaa.ap at this
    omega
theorem Canon.end_ {x : Sp} {l : List Sp} (h : Canon (x :: l)) {n : Int} (hc : cov (x :: l) x.t n) (hn : n ≤ x.hi + 1) : n ≤ x.hi := by
  obtain ⟨y, hy, h1, h2, h3⟩ := hc
  rcases List.mem_cons.1 hy with r | r
  · subst r; exact h3
  · have := h.head y r
    unfold Go.Proofs.Ytmicheheibkmjaa.ap at this
    omega
theorem Canon.cov_tail {x : Sp} {l : List Sp} (h : Canon (x :: l)) (t n : Int) : cov l t n ↔ cov (x :: l) t n ∧ ¬ inS x t n := by
  rw [cov_cons]
  constructor
  · intro hc
    refine ⟨Or.inr hc, fun hx => ?_⟩
    obtain ⟨y, hy, h1, h2, h3⟩ := hc
    have := h.head y hy
    unfold Go.Proofs.Ytmicheheibkmjaa.ap at this
    unfold inS at hx
    omega
  · rintro ⟨h1 | h1, h2⟩
    · exact absurd h1 h2
    · exact h1
/-- Spans in order are told by the numbers in them. -/
theorem spans_same : ∀ (l m : List Sp), Canon l → Canon m → (∀ t n, cov l t n ↔ cov m t n) → l = m
  | [], [], _, _, _ => rfl
  | [], y :: m, _, hm, h => by
    have := (h y.t y.lo).2 ⟨y, by simp, rfl, Int.le_refl _, hm.ne y (by simp)⟩
    obtain ⟨x, hx, _⟩ := this
    cases hx
  | x :: l, [], hl, _, h => by
    have := (h x.t x.lo).1 ⟨x, by simp, rfl, Int.le_refl _, hl.ne x (by simp)⟩
    obtain ⟨y, hy, _⟩ := this
    cases hy
  | x :: l, y :: m, hl, hm, h => by
    have hx := hl.ne x (by simp)
    have hy := hm.ne y (by simp)
    have ax : cov (x :: l) x.t x.lo := ⟨x, by simp, rfl, Int.le_refl _, hx⟩
    have ay : cov (y :: m) y.t y.lo := ⟨y, by simp, rfl, Int.le_refl _, hy⟩
    have f1 := hm.first ((h _ _).1 ax)
    have f2 := hl.first ((h _ _).2 ay)
    have e1 : x.t = y.t := by omega
    have e2 : x.lo = y.lo := by omega
    have e3 : x.hi = y.hi := by
      by_cases g : x.hi < y.hi
      · have c : cov (y :: m) x.t (x.hi + 1) := ⟨y, by simp, e1.symm, by omega, by omega⟩
        have := hl.end_ ((h _ _).2 c) (Int.le_refl _)
        omega
      · by_cases g2 : y.hi < x.hi
        · have c : cov (x :: l) y.t (y.hi + 1) := ⟨x, by simp, e1, by omega, by omega⟩
          have := hm.end_ ((h _ _).1 c) (Int.le_refl _)
          omega
        · omega
    have e : x = y := by cases x; cases y; simp_all
    subst e
    rw [spans_same l m hl.tail hm.tail fun t n => by rw [hl.cov_tail, hm.cov_tail, h]]
/-- Which span begins no later. -/
def leS (x y : Sp) : Prop := x.t < y.t ∨ (x.t = y.t ∧ x.lo ≤ y.lo)
/-- One more span behind those that stand there. -/
def mrg (o : List Sp) (x : Sp) : List Sp :=
  match o.getLast? with
  | none => [x]
  | some e => if ap e x then o ++ [x] else o.dropLast ++ [{ e with hi := max e.hi x.hi }]
theorem mrg_nil (x : Sp) : mrg [] x = [x] := rfl
theorem mrg_snoc (o : List Sp) (e x : Sp) : mrg (o ++ [e]) x = if ap e x then o ++ [e] ++ [x] else o ++ [{ e with hi := max e.hi x.hi }] := by
  simp [mrg]
theorem mrg_ok {o : List Sp} {x : Sp} (h : Canon o) (hx : x.lo ≤ x.hi) (hl : ∀ e ∈ o, leS e x) :
    Canon (mrg o x) ∧ (∀ t n, cov (mrg o x) t n ↔ cov o t n ∨ inS x t n) ∧ (∀ z, leS x z → ∀ e ∈ mrg o x, leS e z) := by
  rcases List.eq_nil_or_concat o with rfl | ⟨p, e, rfl⟩
  · rw [mrg_nil]
    exact ⟨⟨by simp, by simpa using hx⟩, fun t n => by simp [cov], fun z hz e he => by simp at he; exact he ▸ hz⟩
  · simp only [List.concat_eq_append] at h hl ⊢
    rw [mrg_snoc]
    have he := h.ne e (by simp)
    have hpe := (List.pairwise_append.1 h.ap)
    have hle := hl e (by simp)
    unfold leS at hle
    split
    · rename_i hap
      refine ⟨⟨?_, ?_⟩, ?_, ?_⟩
      · rw [List.pairwise_append]
        refine ⟨h.ap, by simp, fun a ha b hb => ?_⟩
        simp at hb
        subst hb
        rcases List.mem_append.1 ha with r | r
        · have := hpe.2.2 a r e (by simp)
          unfold ap at this hap ⊢
          omega
        · simp at r; rw [r]; exact hap
      · intro y hy
        rcases List.mem_append.1 hy with r | r
        · exact h.ne y r
        · simp at r; rw [r]; exact hx
      · intro t n
        rw [cov_append, cov_one]
      · intro z hz y hy
        rcases List.mem_append.1 hy with r | r
        · have := hl y r
          unfold leS at this hz ⊢
          omega
        · simp at r; rw [r]; exact hz
    · rename_i hap
      have h1 : e.t = x.t := by unfold ap at hap; omega
      have h2 : x.lo ≤ e.hi + 1 := by unfold ap at hap; omega
      refine ⟨⟨?_, ?_⟩, ?_, ?_⟩
      · rw [List.pairwise_append]
        refine ⟨hpe.1, by simp, fun a ha b hb => ?_⟩
        simp at hb
        subst hb
        have := hpe.2.2 a ha e (by simp)
        unfold ap at this ⊢
        exact this
      · intro y hy
        rcases List.mem_append.1 hy with r | r
        · exact h.ne y (by simp [r])
        · simp at r; rw [r]; show e.lo ≤ max e.hi x.hi; omega
      · intro t n
        rw [cov_append, cov_append, cov_one, cov_one, or_assoc]
        refine or_congr Iff.rfl ?_
        unfold inS
        simp only
        omega
      · intro z hz y hy
        rcases List.mem_append.1 hy with r | r
        · have := hl y (by simp [r])
          unfold leS at this hz ⊢
          omega
        · simp at r; rw [r]; unfold leS at hz ⊢; simp only; omega
theorem mrg_all : ∀ (l o : List Sp), Canon o → (∀ x ∈ l, x.lo ≤ x.hi) → l.Pairwise leS → (∀ e ∈ o, ∀ x ∈ l, leS e x) →
    Canon (l.foldl mrg o) ∧ ∀ t n, cov (l.foldl mrg o) t n ↔ cov o t n ∨ cov l t n
  | [], o, h, _, _, _ => ⟨h, fun t n => by simp [cov]⟩
  | x :: l, o, h, hne, hs, hl => by
    rw [List.pairwise_cons] at hs
    obtain ⟨h1, h2, h3⟩ := mrg_ok h (hne x (by simp)) (fun e he => hl e he x (by simp))
    obtain ⟨g1, g2⟩ := mrg_all l (mrg o x) h1 (fun y hy => hne y (List.mem_cons_of_mem _ hy)) hs.2 (fun e he y hy => h3 y (hs.1 y hy) e he)
    exact ⟨g1, fun t n => by rw [List.foldl_cons, g2, h2, cov_cons, or_assoc]⟩
/-- The document's touch, add. -/
def tch (a b : Sp) : Prop := a.t = b.t ∧ ¬ a.hi + 1 < b.lo ∧ ¬ b.hi + 1 < a.lo
instance (a b : Sp) : Decidable (tch a b) := by unfold tch; infer_instance
def hull (x y : Sp) : Sp := ⟨x.t, if y.lo < x.lo then y.lo else x.lo, if y.hi > x.hi then y.hi else x.hi⟩
def far : List Sp → Sp → List Sp
  | [], _ => []
  | y :: l, x => if tch y x then far l (hull x y) else y :: far l x
def near : List Sp → Sp → Sp
  | [], x => x
  | y :: l, x => if tch y x then near l (hull x y) else near l x
theorem hull_ne {x y : Sp} (hx : x.lo ≤ x.hi) : (hull x y).lo ≤ (hull x y).hi := by
  unfold hull; simp only; split <;> split <;> omega
theorem hull_in {x y : Sp} (h : tch y x) (t n : Int) : inS (hull x y) t n ↔ inS x t n ∨ inS y t n := by
  unfold tch at h
  unfold hull inS
  simp only
  split <;> split <;> omega
theorem far_ok : ∀ (l : List Sp) (o : List Sp) (x : Sp), Canon (o ++ l) → x.lo ≤ x.hi → (∀ y ∈ o, ¬ tch y x) →
    Canon (o ++ far l x) ∧ (near l x).lo ≤ (near l x).hi ∧ (∀ y ∈ o ++ far l x, ¬ tch y (near l x)) ∧ ∀ t n, cov (far l x) t n ∨ inS (near l x) t n ↔ cov l t n ∨ inS x t n
  | [], o, x, h, hx, ho => ⟨h, hx, by simpa [far, near] using ho, fun t n => by simp [far, near]⟩
  | y :: l, o, x, h, hx, ho => by
    have hy : y.lo ≤ y.hi := h.ne y (by simp)
    have hoy : ∀ z ∈ o, ap z y := fun z hz => (List.pairwise_append.1 h.ap).2.2 z hz y (by simp)
    unfold far near
    split
    · rename_i ht
      have h2 : Canon (o ++ l) := ⟨h.ap.sublist (by simp), fun z hz => h.ne z (by simp at hz ⊢; rcases hz with r | r <;> simp [r])⟩
      have h3 : ∀ z ∈ o, ¬ tch z (hull x y) := fun z hz => by
        have a1 := ho z hz
        have a2 := hoy z hz
        have a3 := h.ne z (by simp [hz])
        unfold ap at a2
        unfold tch at a1 ht ⊢
        unfold hull
        simp only
        split <;> split <;> omega
      obtain ⟨g1, g2, g3, g4⟩ := far_ok l o (hull x y) h2 (hull_ne hx) h3
      refine ⟨g1, g2, g3, fun t n => ?_⟩
      rw [g4, hull_in ht, cov_cons]
      constructor
      · rintro (a | a | a)
        · exact Or.inl (Or.inr a)
        · exact Or.inr a
        · exact Or.inl (Or.inl a)
      · rintro ((a | a) | a)
        · exact Or.inr (Or.inr a)
        · exact Or.inl a
        · exact Or.inr (Or.inl a)
    · rename_i ht
      obtain ⟨g1, g2, g3, g4⟩ := far_ok l (o ++ [y]) x (by rw [List.append_assoc]; exact h) hx (fun z hz => by
        rcases List.mem_append.1 hz with r | r
        · exact ho z r
        · simp at r; rw [r]; exact ht)
      rw [List.append_assoc] at g1 g3
      refine ⟨g1, g2, g3, fun t n => ?_⟩
      rw [cov_cons, or_assoc, g4, cov_cons, or_assoc]
def aft (y x : Sp) : Bool := decide (y.t > x.t) || (decide (y.t = x.t) && decide (y.lo > x.lo))
def putA (x : Sp) : List Sp → Bool → List Sp
  | [], d => if d then [] else [x]
  | y :: l, d => (if !d && aft y x then [x] else []) ++ [y] ++ putA x l (d || aft y x)
theorem putA_true (x : Sp) : ∀ l, putA x l true = l
  | [] => rfl
  | y :: l => by simp [putA, putA_true x l]
theorem putA_ok (x : Sp) (hx : x.lo ≤ x.hi) : ∀ (l : List Sp), Canon l → (∀ y ∈ l, ¬ tch y x) → Canon (putA x l false) ∧ ∀ t n, cov (putA x l false) t n ↔ cov l t n ∨ inS x t n
  | [], _, _ => ⟨⟨by simp [putA], by simpa [putA] using hx⟩, fun t n => by simp [putA, cov]⟩
  | y :: l, h, ht => by
    have hy := h.ne y (by simp)
    have hty := ht y (by simp)
    cases ha : aft y x with
    | true =>
      have e : putA x (y :: l) false = x :: y :: l := by simp [putA, ha, putA_true]
      have a1 : ap x y := by
        simp [aft] at ha
        unfold tch at hty
        unfold ap
        omega
      rw [e]
      refine ⟨⟨?_, ?_⟩, fun t n => ?_⟩
      · rw [List.pairwise_cons]
        refine ⟨fun z hz => ?_, h.ap⟩
        rcases List.mem_cons.1 hz with r | r
        · rw [r]; exact a1
        · have := h.head z r
          unfold ap at this a1 ⊢
          omega
      · intro z hz
        rcases List.mem_cons.1 hz with r | r
        · rw [r]; exact hx
        · exact h.ne z r
      · rw [cov_cons, or_comm]
    | false =>
      have e : putA x (y :: l) false = y :: putA x l false := by simp [putA, ha]
      have a1 : ap y x := by
        simp [aft] at ha
        unfold tch at hty
        unfold ap
        omega
      obtain ⟨g1, g2⟩ := putA_ok x hx l h.tail (fun z hz => ht z (List.mem_cons_of_mem _ hz))
      rw [e]
      refine ⟨⟨?_, ?_⟩, fun t n => ?_⟩
      · rw [List.pairwise_cons]
        refine ⟨fun z hz => ?_, g1.ap⟩
        have hzc : cov (putA x l false) z.t z.lo := ⟨z, hz, rfl, Int.le_refl _, g1.ne z hz⟩
        rw [g2] at hzc
        rcases hzc with ⟨w, hw, b1, b2, b3⟩ | ⟨b1, b2, b3⟩
        · have := h.head w hw
          unfold ap at this ⊢
          omega
        · unfold ap at a1 ⊢
          omega
      · intro z hz
        rcases List.mem_cons.1 hz with r | r
        · rw [r]; exact hy
        · exact g1.ne z r
      · rw [cov_cons, g2, cov_cons, or_assoc]
/-- The document's add. -/
def add (l : List Sp) (x : Sp) : List Sp := if x.lo > x.hi then l else putA (near l x) (far l x) false
theorem add_ok {l : List Sp} (h : Canon l) (x : Sp) : Canon (add l x) ∧ ∀ t n, cov (add l x) t n ↔ cov l t n ∨ inS x t n := by
  unfold add
  split
  · rename_i hx
    refine ⟨h, fun t n => ⟨Or.inl, fun q => q.elim id fun q => ?_⟩⟩
    unfold inS at q
    omega
  · rename_i hx
    obtain ⟨g1, g2, g3, g4⟩ := far_ok l [] x (by simpa using h) (by omega) (by simp)
    simp only [List.nil_append] at g1 g3
    obtain ⟨f1, f2⟩ := putA_ok (near l x) g2 (far l x) g1 g3
    exact ⟨f1, fun t n => by rw [f2, g4]⟩
def addAll (l m : List Sp) : List Sp := m.foldl add l
theorem addAll_ok : ∀ (m l : List Sp), Canon l → Canon (addAll l m) ∧ ∀ t n, cov (addAll l m) t n ↔ cov l t n ∨ cov m t n
  | [], l, h => ⟨h, fun t n => by simp [addAll, cov]⟩
  | x :: m, l, h => by
    obtain ⟨h1, h2⟩ := add_ok h x
    obtain ⟨g1, g2⟩ := addAll_ok m (add l x) h1
    refine ⟨g1, fun t n => ?_⟩
    show cov (addAll (add l x) m) t n ↔ _
    rw [g2, h2, cov_cons, or_assoc]
/-- Sorted and put together, or one after another: the same. -/
theorem spans_join {l s : List Sp} (hp : ∀ x, x ∈ s ↔ x ∈ l ∧ x.lo ≤ x.hi) (hs : s.Pairwise leS) : s.foldl mrg [] = addAll [] l := by
  obtain ⟨h1, h2⟩ := mrg_all s [] ⟨by simp, by simp⟩ (fun x hx => ((hp x).1 hx).2) hs (by simp)
  obtain ⟨g1, g2⟩ := addAll_ok l [] ⟨by simp, by simp⟩
  refine spans_same _ _ h1 g1 fun t n => ?_
  rw [h2, g2]
  refine or_congr Iff.rfl ?_
  constructor
  · rintro ⟨x, hx, q⟩
    exact ⟨x, ((hp x).1 hx).1, q⟩
  · rintro ⟨x, hx, q⟩
    refine ⟨x, (hp x).2 ⟨hx, ?_⟩, q⟩
    unfold inS at q
    omega
end Go.Proofs.Ytmicheheibkmjaa
