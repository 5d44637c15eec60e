/- Layer 7, of no program: texts of unlike programs are unlike; how many lines there are. -/
import Derived.Test.YtkeckjgihjpfbaaDoorAsm6
namespace Go.Proofs.YtkeckjgihjpfbaaDoor
set_option maxRecDepth 100000

theorem split_inj {c : UInt8} : ∀ (a b s t : List UInt8), c ∉ a → c ∉ b → a ++ c :: s = b ++ c :: t → a = b ∧ s = t
  | [], [], s, t, _, _, h => by simpa using h
  | [], y :: b, s, t, _, hb, h => by simp at h; exact absurd h.1 (fun e => hb (by simp [e]))
  | x :: a, [], s, t, ha, _, h => by simp at h; exact absurd h.1 (fun e => ha (by simp [e]))
  | x :: a, y :: b, s, t, ha, hb, h => by
    simp only [List.cons_append, List.cons.injEq] at h
    have h2 := split_inj a b s t (fun m => ha (List.mem_cons_of_mem _ m)) (fun m => hb (List.mem_cons_of_mem _ m)) h.2
    exact ⟨by rw [h.1, h2.1], h2.2⟩
theorem seps_inj {c : UInt8} : ∀ (ws vs : List (List UInt8)) (a b : List UInt8), c ∉ a → c ∉ b → (∀ w ∈ ws, c ∉ w) → (∀ v ∈ vs, c ∉ v) → a ++ ws.flatMap (fun w => c :: w) = b ++ vs.flatMap (fun w => c :: w) → a = b ∧ ws = vs
  | [], [], a, b, _, _, _, _, h => by simpa using h
  | [], v :: vs, a, b, ha, _, _, _, h => by
    simp only [List.flatMap_nil, List.append_nil, List.flatMap_cons, List.cons_append] at h
    exact absurd (by rw [h]; simp) ha
  | w :: ws, [], a, b, _, hb, _, _, h => by
    simp only [List.flatMap_nil, List.append_nil, List.flatMap_cons, List.cons_append] at h
    exact absurd (by rw [← h]; simp) hb
  | w :: ws, v :: vs, a, b, ha, hb, hw, hv, h => by
    simp only [List.flatMap_cons, List.cons_append] at h
    obtain ⟨h1, h2⟩ := split_inj a b _ _ ha hb h
    obtain ⟨h3, h4⟩ := seps_inj ws vs w v (hw w (List.mem_cons_self ..)) (hv v (List.mem_cons_self ..)) (fun x m => hw x (List.mem_cons_of_mem _ m)) (fun x m => hv x (List.mem_cons_of_mem _ m)) h2
    exact ⟨h1, by rw [h3, h4]⟩
theorem terms_inj {c : UInt8} : ∀ (ws vs : List (List UInt8)), (∀ w ∈ ws, c ∉ w) → (∀ v ∈ vs, c ∉ v) → ws.flatMap (fun w => w ++ [c]) = vs.flatMap (fun w => w ++ [c]) → ws = vs
  | [], [], _, _, _ => rfl
  | [], v :: vs, _, _, h => by simp at h
  | w :: ws, [], _, _, h => by simp at h
  | w :: ws, v :: vs, hw, hv, h => by
    simp only [List.flatMap_cons, List.append_assoc, List.singleton_append] at h
    obtain ⟨h1, h2⟩ := split_inj w v _ _ (hw w (List.mem_cons_self ..)) (hv v (List.mem_cons_self ..)) h
    rw [h1, terms_inj ws vs (fun x m => hw x (List.mem_cons_of_mem _ m)) (fun x m => hv x (List.mem_cons_of_mem _ m)) h2]

/-- What figures are worth. -/
def valD (l : List UInt8) : Nat := l.foldl (fun a b => 10 * a + (b.toNat - 48)) 0
theorem digit_nat (d : Nat) (h : d < 10) : (UInt8.ofNat (48 + d)).toNat = 48 + d := by rw [UInt8.toNat_ofNat']; omega
theorem valD_dec (u : Nat) : valD (Lib.decDigits u) = u := by
  induction u using Nat.strongRecOn with
  | ind u ih =>
    by_cases h : u < 10
    · rw [digit_one u h]
      unfold valD
      simp only [List.foldl_cons, List.foldl_nil, digit_nat u h]
      omega
    · rw [Lib.decDigits, dif_neg h]
      have h2 := ih (u / 10) (by omega)
      unfold valD at h2 ⊢
      rw [List.foldl_append, h2]
      simp only [List.foldl_cons, List.foldl_nil, digit_nat (u % 10) (Nat.mod_lt _ (by omega))]
      omega
theorem dec_mem (u : Nat) : ∀ b ∈ Lib.decDigits u, 48 ≤ b.toNat ∧ b.toNat ≤ 57 := by
  induction u using Nat.strongRecOn with
  | ind u ih =>
    intro b hb
    by_cases h : u < 10
    · rw [digit_one u h, List.mem_singleton] at hb
      rw [hb, digit_nat u h]; omega
    · rw [Lib.decDigits, dif_neg h] at hb
      rcases List.mem_append.1 hb with hb | hb
      · exact ih (u / 10) (by omega) b hb
      · rw [List.mem_singleton.1 hb, digit_nat (u % 10) (Nat.mod_lt _ (by omega))]; omega
theorem itoa_mem (z : Int) : ∀ b ∈ Lib.itoa z, b.toNat = 45 ∨ 48 ≤ b.toNat ∧ b.toNat ≤ 57 := by
  intro b hb
  unfold Lib.itoa at hb
  split at hb
  · rcases List.mem_cons.1 hb with rfl | hb
    · exact .inl rfl
    · exact .inr (dec_mem _ b hb)
  · exact .inr (dec_mem _ b hb)
theorem itoa_inj {z y : Int} (h : Lib.itoa z = Lib.itoa y) : z = y := by
  unfold Lib.itoa at h
  have hm : ∀ u v : Nat, 45 :: Lib.decDigits u ≠ Lib.decDigits v := fun u v e => by
    have := dec_mem v 45 (by rw [← e]; simp)
    have e : (45 : UInt8).toNat = 45 := rfl
    omega
  split at h
  · split at h
    · simp only [List.cons.injEq, true_and] at h
      have := congrArg valD h
      rw [valD_dec, valD_dec] at this
      omega
    · exact absurd h (hm _ _)
  · split at h
    · exact absurd h.symm (hm _ _)
    · have := congrArg valD h
      rw [valD_dec, valD_dec] at this
      omega
theorem mem_not {l : List UInt8} {c : UInt8} (h : ∀ b ∈ l, b.toNat ≠ c.toNat) : c ∉ l := fun m => h c m rfl
theorem mark_mem (l : Nat) : ∀ b ∈ markL l, b.toNat = 114 ∨ b.toNat = 116 := by
  intro b hb
  unfold markL at hb
  split at hb
  · rw [List.mem_singleton.1 hb]; exact .inl rfl
  · split at hb
    · rw [List.mem_singleton.1 hb]; exact .inr rfl
    · cases hb
theorem sign_mem (z : Int) : ∀ b ∈ signL z, 60 ≤ b.toNat ∧ b.toNat ≤ 63 := by
  intro b hb
  unfold signL at hb
  split at hb
  · rw [List.mem_singleton.1 hb]; decide
  · split at hb
    · rw [List.mem_singleton.1 hb]; decide
    · split at hb
      · rw [List.mem_singleton.1 hb]; decide
      · split at hb
        · simp only [List.mem_cons, List.not_mem_nil, or_false] at hb
          rcases hb with rfl | rfl <;> decide
        · rw [List.mem_singleton.1 hb]; decide
/-- No blank and no line's end in a field's word. -/
theorem fieldW_mem (l : Nat) (z : Int) : ∀ b ∈ fieldW l z, 33 ≤ b.toNat := by
  intro b hb
  unfold fieldW at hb
  split at hb
  · have := sign_mem z b hb; omega
  · rcases List.mem_append.1 hb with hb | hb
    · have := mark_mem l b hb; omega
    · have := itoa_mem z b hb; omega
theorem word_mem (op : Int) : ∀ b ∈ wordL op, 33 ≤ b.toNat := by
  intro b hb
  have hall : wordsS.all (fun w => w.all fun b => decide (33 ≤ b.toNat)) = true := by decide +kernel
  unfold wordL at hb
  split at hb
  · cases hg : wordsS[op.toNat]? with
    | none => rw [hg] at hb; cases hb
    | some w =>
      rw [hg] at hb
      have h1 := List.all_eq_true.1 hall w (List.mem_of_getElem? hg)
      exact of_decide_eq_true (List.all_eq_true.1 h1 b hb)
  · cases hb
theorem line_mem (x : Ins) : ∀ b ∈ lineL x, 32 ≤ b.toNat := by
  intro b hb
  unfold lineL lineLs at hb
  rcases List.mem_append.1 hb with hb | hb
  · have := word_mem _ b hb; omega
  · obtain ⟨l, _, hb⟩ := List.mem_flatMap.1 hb
    rcases List.mem_cons.1 hb with rfl | hb
    · decide
    · have := fieldW_mem l _ b hb
      omega
theorem sign_inj {z y : Int} (hz : 0 ≤ z ∧ z ≤ 3) (hy : 0 ≤ y ∧ y ≤ 3) (h : signL z = signL y) : z = y := by
  have h1 : z = 0 ∨ z = 1 ∨ z = 2 ∨ z = 3 := by omega
  have h2 : y = 0 ∨ y = 1 ∨ y = 2 ∨ y = 3 := by omega
  rcases h1 with rfl | rfl | rfl | rfl <;> rcases h2 with rfl | rfl | rfl | rfl <;> first | rfl | (exact absurd h (by decide))
theorem wordL_inj {a b : Int} (ha : 0 ≤ a ∧ a < 16) (hb : 0 ≤ b ∧ b < 16) (h : wordL a = wordL b) : a = b := by
  obtain ⟨k, rfl⟩ := Int.eq_ofNat_of_zero_le ha.1
  obtain ⟨j, rfl⟩ := Int.eq_ofNat_of_zero_le hb.1
  have hall : ∀ k : Nat, k < 16 → ∀ j : Nat, j < 16 → wordL (k : Int) = wordL (j : Int) → k = j := by decide +kernel
  have := hall k (by omega) j (by omega) h
  omega
/-- A good program's instruction. -/
structure Ins.Good (x : Ins) : Prop where
  op : 0 ≤ x.op ∧ x.op < 16
  used : usedL x (shapeL x.op) = x
  sign : 106 ∈ shapeL x.op → 0 ≤ x.get (offL 106) ∧ x.get (offL 106) ≤ 3
theorem good_of_chk {f : Int} {l : List Ins} (h : chk f l = -2) : ∀ x ∈ l, x.Good := by
  obtain ⟨hh, hall⟩ := chk_good h
  intro x hx
  obtain ⟨k, hk, rfl⟩ := List.getElem_of_mem hx
  have h1 := hall k hk
  unfold goodAt goodI at h1
  rw [List.getD_eq_getElem?_getD, List.getElem?_eq_getElem hk] at h1
  simp only [Option.getD_some, Bool.and_eq_true, List.all_eq_true, decide_eq_true_iff] at h1
  refine ⟨of_decide_eq_true h1.1, h1.2.2, fun hm => ?_⟩
  have h3 := h1.2.1 106 hm
  unfold inB at h3
  rw [decide_eq_false (by decide), Bool.false_or, decide_eq_true_iff] at h3
  exact h3
theorem used_congr' (x y : Ins) : ∀ (ls : List Nat) (u : Ins), (∀ l ∈ ls, x.get (offL l) = y.get (offL l)) → ls.foldl (fun u l => u.set (offL l) (x.get (offL l))) u = ls.foldl (fun u l => u.set (offL l) (y.get (offL l))) u
  | [], _, _ => rfl
  | l :: ls, u, h => by
    rw [List.foldl_cons, List.foldl_cons, h l (List.mem_cons_self ..)]
    exact used_congr' x y ls _ fun q hq => h q (List.mem_cons_of_mem _ hq)
theorem used_congr (x y : Ins) (ho : x.op = y.op) (ls : List Nat) (h : ∀ l ∈ ls, x.get (offL l) = y.get (offL l)) : usedL x ls = usedL y ls := by
  unfold usedL
  rw [ho]
  exact used_congr' x y ls _ h
theorem line_inj {x y : Ins} (hx : x.Good) (hy : y.Good) (h : lineL x = lineL y) : x = y := by
  unfold lineL lineLs at h
  have e : ∀ (x : Ins) (ls : List Nat), (ls.flatMap fun l => 32 :: x.word l) = (ls.map x.word).flatMap fun w => 32 :: w := fun x ls => by rw [List.flatMap_map]
  rw [e, e] at h
  have hw : ∀ (x : Ins) (ls : List Nat), ∀ w ∈ ls.map x.word, (32 : UInt8) ∉ w := fun x ls w hw => by
    obtain ⟨l, _, rfl⟩ := List.mem_map.1 hw
    exact mem_not fun b hb => by have := fieldW_mem l _ b hb; have e : (32 : UInt8).toNat = 32 := rfl; omega
  have ha : ∀ op, (32 : UInt8) ∉ wordL op := fun op => mem_not fun b hb => by have := word_mem op b hb; have e : (32 : UInt8).toNat = 32 := rfl; omega
  obtain ⟨h1, h2⟩ := seps_inj _ _ _ _ (ha _) (ha _) (hw x _) (hw y _) h
  have ho := wordL_inj hx.op hy.op h1
  rw [← ho] at h2
  have hg : ∀ l ∈ shapeL x.op, x.get (offL l) = y.get (offL l) := by
    intro l hl
    have h3 : x.word l = y.word l := List.map_inj_left.1 h2 l hl
    unfold Ins.word fieldW at h3
    by_cases hj : l = 106
    · subst hj
      rw [if_pos rfl, if_pos rfl] at h3
      exact sign_inj (hx.sign hl) (hy.sign (ho ▸ hl)) h3
    · rw [if_neg hj, if_neg hj] at h3
      exact itoa_inj (List.append_cancel_left h3)
  have h4 := used_congr x y ho _ hg
  rw [hx.used] at h4
  rw [h4, ho, hy.used]
def linesOf (f : Int) (l : List Ins) : List (List UInt8) := ([102, 117, 101, 108, 32] ++ Lib.itoa f) :: l.map lineL
theorem print_lines (f : Int) (l : List Ins) : printLs f l = (linesOf f l).flatMap fun w => w ++ [10] := by
  unfold printLs headL linesOf
  rw [List.flatMap_cons, List.flatMap_map]
theorem lines_mem (f : Int) (l : List Ins) : ∀ w ∈ linesOf f l, (10 : UInt8) ∉ w := by
  intro w hw
  refine mem_not fun b hb => ?_
  have e : (10 : UInt8).toNat = 10 := rfl
  unfold linesOf at hw
  rcases List.mem_cons.1 hw with rfl | hw
  · rcases List.mem_append.1 hb with hb | hb
    · simp only [List.mem_cons, List.not_mem_nil, or_false] at hb
      rcases hb with rfl | rfl | rfl | rfl | rfl <;> decide
    · have := itoa_mem f b hb; omega
  · obtain ⟨x, _, rfl⟩ := List.mem_map.1 hw
    have := line_mem x b hb; omega
theorem map_line_inj : ∀ (l m : List Ins), (∀ x ∈ l, x.Good) → (∀ x ∈ m, x.Good) → l.map lineL = m.map lineL → l = m
  | [], [], _, _, _ => rfl
  | [], _ :: _, _, _, h => by cases h
  | _ :: _, [], _, _, h => by cases h
  | x :: l, y :: m, hl, hm, h => by
    simp only [List.map_cons, List.cons.injEq] at h
    rw [line_inj (hl x (List.mem_cons_self ..)) (hm y (List.mem_cons_self ..)) h.1, map_line_inj l m (fun z hz => hl z (List.mem_cons_of_mem _ hz)) (fun z hz => hm z (List.mem_cons_of_mem _ hz)) h.2]
theorem print_inj {f g : Int} {l m : List Ins} (h1 : chk f l = -2) (h2 : chk g m = -2) (h : printLs f l = printLs g m) : f = g ∧ l = m := by
  rw [print_lines, print_lines] at h
  have h3 := terms_inj _ _ (lines_mem f l) (lines_mem g m) h
  unfold linesOf at h3
  simp only [List.cons.injEq] at h3
  exact ⟨itoa_inj (List.append_cancel_left h3.1), map_line_inj l m (good_of_chk h1) (good_of_chk h2) h3.2⟩
theorem terms_count : ∀ ws : List (List UInt8), (∀ w ∈ ws, (10 : UInt8) ∉ w) → (ws.flatMap fun w => w ++ [10]).count 10 = ws.length
  | [], _ => rfl
  | w :: ws, h => by
    rw [List.flatMap_cons, List.count_append, List.count_append, terms_count ws (fun x m => h x (List.mem_cons_of_mem _ m)), List.count_eq_zero_of_not_mem (h w (List.mem_cons_self ..))]
    simp; omega
theorem print_count (f : Int) (l : List Ins) : (printLs f l).count 10 = 1 + l.length := by
  rw [print_lines, terms_count _ (lines_mem f l)]
  simp [linesOf]; omega
theorem terms_last : ∀ (w : List UInt8) (ws : List (List UInt8)), ((w :: ws).flatMap fun w => w ++ [10]).getLast? = some 10
  | w, [] => by simp
  | w, v :: ws => by
    rw [List.flatMap_cons, List.getLast?_append, terms_last v ws]; rfl
theorem print_last (f : Int) (l : List Ins) : (printLs f l)[(printLs f l).length - 1]? = some 10 := by
  rw [← List.getLast?_eq_getElem?, print_lines]
  exact terms_last _ _
end Go.Proofs.YtkeckjgihjpfbaaDoor
