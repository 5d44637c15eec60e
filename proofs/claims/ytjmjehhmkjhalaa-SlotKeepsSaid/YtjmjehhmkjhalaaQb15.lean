/- DReg: put together. -/
import Derived.StillTail
import Derived.Below
import Derived.Deep.RegionHeld3
/- A region that draws its order, whose operations only make memory: each by a fact of its own, whatever the order. -/
namespace Go.Proofs.Ytjmjehhmkjhalaa
open Go Go.RowKit

section
variable {P : Program} {ops : Array Oper} {Q : Exit → Act → World → Prop} {md : Region.Mode}

/-- What is known of an operation's value: of the worlds ahead of it and behind it. -/
abbrev Past := Value × World × World
abbrev Fact := List Past → Value → World → World → Prop
inductive Say where
  | is (v : Value)
  | tells (F : Fact)
def Say.fact : Say → Fact
  | .is c => fun _ v _ _ => v = c
  | .tells F => F
def Say.past (w0 : World) : Say → Value → World → World → Past
  | .is c, _, _, _ => (c, w0, w0)
  | .tells _, v, wb, wa => (v, wb, wa)
def any : Say := .tells fun _ _ _ _ => True
abbrev Ext (w w' : World) : Prop := Below w.heap.size w w'
theorem Ext.trans {a b c : World} (h : Ext a b) (k : Ext b c) : Ext a c := Below.trans h (Below.mono k h.size)

/-- What is known of the values on which an operation leans: each is laid into its slot. -/
def Leant (Fs : List Say) (ts : List Tmp) (w0 w : World) : List Nat → List Past → Act → (List Past → Act → Prop) → Prop
  | [], d, a, K => K d a
  | j :: js, d, a, K => match Fs.getD j any with
    | .is c => Leant Fs ts w0 w js (d ++ [(c, w0, w0)]) (a.put (some (ts.getD j 0)) c) K
    | .tells F => ∀ v wb wa, (∃ d', F d' v wb wa) → Ext wa w → Leant Fs ts w0 w js (d ++ [(v, wb, wa)]) (a.put (some (ts.getD j 0)) v) K
/-- An operation by its fact. -/
def Does (P : Program) (ops : Array Oper) (Q : Exit → Act → World → Prop) (o : Oper) (F : Fact) (w : World) (d : List Past) (a : Act) : Prop :=
  ∀ K : Act → World → Prop, (∀ v w', F d v w w' → Ext w w' → K (a.put o.dst v) w') → if Region.wanted o (yielded ops a.tmps) = true then Oper.wp P o a w K Q else K (a.put o.dst undef) w
/-- Each of the operations by its fact. -/
def Heads (P : Program) (ops : Array Oper) (Q : Exit → Act → World → Prop) (Fs : List Say) (ts : List Tmp) (a : Act) (w0 : World) : List Oper → List (List Nat) → List Say → Prop
  | o :: l, d :: ds, F :: F' => (∀ w, Ext w0 w → Leant Fs ts w0 w d [] a (fun d' a' => Does P ops Q o F.fact w d' a')) ∧ Heads P ops Q Fs ts a w0 l ds F'
  | [], [], [] => True
  | _, _, _ => False
/-- What is left behind them. -/
def Behind (w0 w : World) : List Past → List Say → List Tmp → List (List Nat) → Act → (Act → Prop) → Prop
  | hs, .is c :: Fs, t :: ts, _ :: ds, a, K => Behind w0 w (hs ++ [(c, w0, w0)]) Fs ts ds (a.put (some t) c) K
  | hs, .tells F :: Fs, t :: ts, d :: ds, a, K => ∀ v wb wa, F (d.map fun j => hs.getD j (undef, w, w)) v wb wa → Ext wa w → Ext w0 wb → (∀ j ∈ d, Ext (hs.getD j (undef, w, w)).2.2 wb) → Behind w0 w (hs ++ [(v, wb, wa)]) Fs ts ds (a.put (some t) v) K
  | _, _, _, _, a, K => K a

/-- Whether an operation is none of those that are no values. -/
def plainB (o : Oper) : Bool := match o.op with | .select .. => false | _ => true
def headB (md : Region.Mode) (ops : Array Oper) (n N : Nat) (ts : List Tmp) (Ds : List (List Nat)) : Bool :=
  (List.range n).all fun i => match ops[i]? with
    | none => false
    | some o => decide (o.dst = some (ts.getD i 0)) && decide (ts.getD i 0 < N) && plainB o &&
      ((Ds.getD i []).all fun j => decide (j < n) && Region.waitsFor md ops i j) &&
      ((o.looksAt ops).all fun t => (List.range n).all fun j => !decide (ts.getD j 0 = t) || (Ds.getD i []).contains j) &&
      ((List.range n).all fun j => decide (j = i) || !decide (ts.getD j 0 = ts.getD i 0)) &&
      (o.after.all fun e => !Region.binds md e || decide (e.on < i))
def absB (ops : Array Oper) (n N : Nat) (ts : List Tmp) (Ds : List (List Nat)) : Bool :=
  decide (ts.length = n) && decide (n < ops.size) && Region.sinkB .any ops n && Region.chainB .any ops n && headB .any ops n N ts Ds &&
    Region.seqB .any ops (ops.size - n) n ((Array.replicate n true) ++ Array.replicate (ops.size - n) false)

theorem headB_at {n N i : Nat} {ts : List Tmp} {Ds : List (List Nat)} (h : headB md ops n N ts Ds = true) (hi : i < n) :
    ∃ o, ops[i]? = some o ∧ o.dst = some (ts.getD i 0) ∧ ts.getD i 0 < N ∧ (∀ cs b, o.op ≠ .select cs b) ∧ (∀ j ∈ Ds.getD i [], j < n ∧ Region.waitsFor md ops i j = true) ∧ (∀ t ∈ o.looksAt ops, ∀ j, j < n → ts.getD j 0 = t → j ∈ Ds.getD i []) ∧ (∀ j, j < n → j ≠ i → ts.getD j 0 ≠ ts.getD i 0) ∧ ∀ e ∈ o.after, Region.binds md e = true → e.on < i := by
  have h1 := List.all_eq_true.1 h i (List.mem_range.2 hi)
  cases ho : ops[i]? with
  | none => simp [ho] at h1
  | some o =>
    simp only [ho, Bool.and_eq_true, decide_eq_true_eq, List.all_eq_true, List.mem_range, Bool.or_eq_true, Bool.not_eq_true', decide_eq_false_iff_not, List.contains_iff_mem] at h1
    obtain ⟨⟨⟨⟨⟨⟨a, b⟩, c⟩, d⟩, e⟩, f⟩, g⟩ := h1
    exact ⟨o, rfl, a, b, fun cs b hs => by simp [plainB, hs] at c, d, fun t ht j hj hjt => (e t ht j hj).resolve_left fun hn => hn hjt, fun j hj hne => (f j hj).resolve_left hne, fun e he hb => by
      have := (Array.all_eq_true_iff_forall_mem.1 g) e he
      simpa [hb] using this⟩

/-- How a frame stands in the midst of such a region. -/
structure Mid (n : Nat) (Fs : List Say) (ts : List Tmp) (Ds : List (List Nat)) (ops : Array Oper) (a0 : Act) (w0 : World) (listed : Array Bool) (a : Act) (w : World) : Prop where
  inv : HeadInv .any ops n listed
  ext : Ext w0 w
  defers : a.defers = a0.defers
  size : a.tmps.size = a0.tmps.size
  old : ∀ t, (∀ i, i < n → listed.getD i false = true → ts.getD i 0 ≠ t) → a.tmps[t]? = a0.tmps[t]?
  facts : ∃ B A : Nat → World, ∀ i, i < n → listed.getD i false = true → (Fs.getD i any).fact ((Ds.getD i []).map fun j => (Fs.getD j any).past w0 (a.tmps.getD (ts.getD j 0) undef) (B j) (A j)) (a.tmps.getD (ts.getD i 0) undef) (B i) (A i) ∧ Ext (A i) w ∧ (∀ j ∈ Ds.getD i [], Ext (A j) (B i)) ∧ Ext w0 (B i)

def putAll (ts : List Tmp) (s : Nat → Value) : List Nat → Act → Act
  | [], a => a
  | j :: js, a => putAll ts s js (a.put (some (ts.getD j 0)) (s (ts.getD j 0)))
theorem putAll_size (ts : List Tmp) (s : Nat → Value) (js : List Nat) (a : Act) : (putAll ts s js a).tmps.size = a.tmps.size ∧ (putAll ts s js a).defers = a.defers := by
  induction js generalizing a with
  | nil => exact ⟨rfl, rfl⟩
  | cons j js ih =>
    obtain ⟨h1, h2⟩ := ih (a.put (some (ts.getD j 0)) (s (ts.getD j 0)))
    exact ⟨h1.trans (by simp [Act.put]), h2⟩
theorem putAll_at (ts : List Tmp) (s : Nat → Value) (js : List Nat) (a : Act) (t : Nat) (ht : t < a.tmps.size) : (putAll ts s js a).tmps[t]? = if (∃ j ∈ js, ts.getD j 0 = t) then some (s t) else a.tmps[t]? := by
  induction js generalizing a with
  | nil => simp [putAll]
  | cons j js ih =>
    unfold putAll
    rw [ih _ (by simpa [Act.put] using ht)]
    by_cases h1 : ∃ k ∈ js, ts.getD k 0 = t
    · rw [if_pos h1, if_pos (by obtain ⟨k, hk, e⟩ := h1; exact ⟨k, List.mem_cons_of_mem _ hk, e⟩)]
    · rw [if_neg h1]
      by_cases h2 : ts.getD j 0 = t
      · rw [if_pos ⟨j, by simp, h2⟩]
        subst h2
        simp only [Act.put]
        rw [Array.getElem?_setIfInBounds_self_of_lt ht]
      · rw [if_neg (fun ⟨k, hk, e⟩ => by
          rcases List.mem_cons.1 hk with rfl | hk
          · exact h2 e
          · exact h1 ⟨k, hk, e⟩)]
        simp only [Act.put]
        rw [Array.getElem?_setIfInBounds_ne h2]
theorem Leant.at {Fs : List Say} {ts : List Tmp} {w0 w : World} {s : Nat → Value} {B A : Nat → World} {js : List Nat} {d : List Past} {a : Act} {K : List Past → Act → Prop} (h : Leant Fs ts w0 w js d a K) (hf : ∀ j ∈ js, (∃ d', (Fs.getD j any).fact d' (s (ts.getD j 0)) (B j) (A j)) ∧ Ext (A j) w) :
    K (d ++ js.map fun j => (Fs.getD j any).past w0 (s (ts.getD j 0)) (B j) (A j)) (putAll ts s js a) := by
  induction js generalizing a d with
  | nil =>
    rw [List.map_nil, List.append_nil]
    exact h
  | cons j js ih =>
    obtain ⟨h1, h2⟩ := hf j (by simp)
    unfold Leant at h
    cases hF : Fs.getD j any with
    | is c =>
      simp only [hF] at h
      have e : s (ts.getD j 0) = c := by
        obtain ⟨d', h3⟩ := h1
        rw [hF] at h3
        exact h3
      have := ih h fun k hk => hf k (by simp [hk])
      rw [List.append_assoc] at this
      simp only [List.map_cons, hF, Say.past]
      unfold putAll
      rw [e]
      exact this
    | tells F =>
      simp only [hF] at h
      rw [hF] at h1
      have := ih (h _ _ _ h1 h2) fun k hk => hf k (by simp [hk])
      rw [List.append_assoc] at this
      simp only [List.map_cons, hF, Say.past]
      exact this
theorem Heads.at {Fs : List Say} {ts : List Tmp} {a : Act} {w0 : World} : ∀ {l : List Oper} {Ds : List (List Nat)} {F' : List Say}, Heads P ops Q Fs ts a w0 l Ds F' → ∀ i o, l[i]? = some o → ∀ w, Ext w0 w → Leant Fs ts w0 w (Ds.getD i []) [] a (fun d' a' => Does P ops Q o (F'.getD i any).fact w d' a')
  | [], _, _, _, i, o, h => by simp at h
  | _ :: _, [], _, h, _, _, _ => by cases ‹List Say› <;> exact h.elim
  | _ :: _, _ :: _, [], h, _, _, _ => h.elim
  | _ :: l, _ :: Ds, _ :: F', h, 0, o, ho => fun w hw => by
    simp at ho; subst ho
    exact h.1 w hw
  | _ :: l, _ :: Ds, _ :: F', h, i + 1, o, ho => fun w hw => by
    have := Heads.at h.2 i o (by simpa using ho) w hw
    simpa using this
theorem eval_same {a a' : Act} {t : Nat} (h : a.tmps[t]? = a'.tmps[t]?) : a.eval (.tmp t) = a'.eval (.tmp t) := by
  simp only [Act.eval, Array.getD_eq_getD_getElem?, h]
theorem looks_same {o : Oper} {a a' : Act} (hs : ∀ cs b, o.op ≠ .select cs b) (h : ∀ t ∈ o.looksAt ops, a.tmps[t]? = a'.tmps[t]?) :
    execOp a.eval o = execOp a'.eval o ∧ Region.wanted o (yielded ops a.tmps) = Region.wanted o (yielded ops a'.tmps) := by
  refine ⟨execOp_congr o hs fun x hx => ?_, ?_⟩
  · cases x with
    | tmp t => exact eval_same (h t (List.mem_append_left _ (List.mem_filterMap.2 ⟨.tmp t, by simpa using hx, rfl⟩)))
    | _ => rfl
  · unfold Region.wanted
    cases hg : o.guard with
    | none => rfl
    | some gw =>
      obtain ⟨g, want⟩ := gw
      have hy : yielded ops a.tmps g = yielded ops a'.tmps g := by
        unfold yielded
        cases ht : (ops[g]?).bind (·.dst) with
        | none => rfl
        | some t =>
          have := h t (List.mem_append_right _ (by simp [hg, ht]))
          simp [this]
      simp only [hy]
theorem mid_step {n N : Nat} {Fs : List Say} {ts : List Tmp} {Ds : List (List Nat)} {a0 : Act} {w0 : World} {l : List Oper} (hN : a0.tmps.size = N) (hQ : ∀ c a b w, Q (.panic c) a w → Q (.panic c) b w)
    (hB : headB .any ops n N ts Ds = true) (hl : ∀ i, i < n → l[i]? = ops[i]?) (H : Heads P ops Q Fs ts a0 w0 l Ds Fs) {listed : Array Bool} {a : Act} {w : World} (M : Mid n Fs ts Ds ops a0 w0 listed a w) {i : Nat} (hi : i < n) (hr : i ∈ Region.ready .any ops listed) :
    wpOp P ops Q i (fun a' w' => Mid n Fs ts Ds ops a0 w0 (listed.setIfInBounds i true) a' w') a w := by
  obtain ⟨o, ho, hd, hdN, hsel, hds, hlook, hdist, _⟩ := headB_at hB hi
  obtain ⟨hun, o', ho', hall⟩ := mem_ready.1 hr
  obtain rfl : o = o' := Option.some.inj (ho.symm.trans ho')
  have hL := H.at i o ((hl i hi).trans ho) w M.ext
  have hdone : ∀ j, j < n → Region.waitsFor .any ops i j = true → listed.getD j false = true := by
    intro j hj hw
    obtain ⟨oj, hoj, e, he, hb, hon⟩ := Region.waitsFor_spec hw
    obtain rfl : o = oj := Option.some.inj (ho.symm.trans hoj)
    rw [← hon]; exact hall e he hb
  obtain ⟨B, A, hfs⟩ := M.facts
  have hD := hL.at (s := fun t => a.tmps.getD t undef) (B := B) (A := A) fun j hj => by
    obtain ⟨h1, h2, _⟩ := hfs j (hds j hj).1 (hdone j (hds j hj).1 (hds j hj).2)
    exact ⟨⟨_, h1⟩, h2⟩
  rw [List.nil_append] at hD
  obtain ⟨dl, hdl⟩ : ∃ dl, dl = (Ds.getD i []).map fun j => (Fs.getD j any).past w0 (a.tmps.getD (ts.getD j 0) undef) (B j) (A j) := ⟨_, rfl⟩
  have hD : Does P ops Q o (Fs.getD i any).fact w dl (putAll ts (fun t => a.tmps.getD t undef) (Ds.getD i []) a0) := by rw [hdl]; exact hD
  obtain ⟨ad, had⟩ : ∃ ad, ad = putAll ts (fun t => a.tmps.getD t undef) (Ds.getD i []) a0 := ⟨_, rfl⟩
  rw [← had] at hD
  obtain ⟨hsz, hdf⟩ := putAll_size ts (fun t => a.tmps.getD t undef) (Ds.getD i []) a0
  rw [← had] at hsz hdf
  have hadN : ts.getD i 0 < ad.tmps.size := by rw [hsz, hN]; exact hdN
  have haN : ts.getD i 0 < a.tmps.size := by rw [M.size, hN]; exact hdN
  obtain ⟨he, hw⟩ := looks_same (ops := ops) (a := a) (a' := ad) hsel fun t ht => by
    rcases Nat.lt_or_ge t a0.tmps.size with hlt | hge
    · rw [had, putAll_at _ _ _ _ _ hlt]
      by_cases hj : ∃ j ∈ Ds.getD i [], ts.getD j 0 = t
      · rw [if_pos hj]
        have : t < a.tmps.size := by rw [M.size]; exact hlt
        simp [this]
      · rw [if_neg hj]
        exact M.old t fun j hj1 _ e => hj ⟨j, hlook t ht j hj1 e, e⟩
    · rw [Array.getElem?_eq_none (by rw [M.size]; exact hge), Array.getElem?_eq_none (by rw [hsz]; exact hge)]
  have put_at : ∀ (b : Act) v, ts.getD i 0 < b.tmps.size → (b.put (some (ts.getD i 0)) v).tmps.getD (ts.getD i 0) undef = v := fun b v hb => by
    simp only [Act.put, Array.getD_eq_getD_getElem?]
    rw [Array.getElem?_setIfInBounds_self_of_lt hb]
    rfl
  have fin : ∀ v w', (Fs.getD i any).fact dl v w w' → Ext w w' → Mid n Fs ts Ds ops a0 w0 (listed.setIfInBounds i true) (a.put o.dst v) w' := by
    intro v w' hf hx
    refine ⟨M.inv.set hr hi, M.ext.trans hx, by rw [hd]; exact M.defers, by rw [hd]; simp [Act.put, M.size], fun t ht => ?_, ?_⟩
    · have h1 : ts.getD i 0 ≠ t := ht i hi (by
        have : i < listed.size := by rw [M.inv.size]; exact (Array.getElem?_eq_some_iff.1 ho).1
        simp [this])
      rw [hd]
      simp only [Act.put]
      rw [Array.getElem?_setIfInBounds_ne h1]
      exact M.old t fun k hk hlk => ht k hk (getD_set_true hlk)
    · refine ⟨fun x => if x = i then w else B x, fun x => if x = i then w' else A x, fun k hk hlk => ?_⟩
      rw [hd]
      have hpt : ∀ j, j < n → j ≠ i → (a.put (some (ts.getD i 0)) v).tmps.getD (ts.getD j 0) undef = a.tmps.getD (ts.getD j 0) undef := fun j hj e => by
        simp only [Act.put, Array.getD_eq_getD_getElem?]
        rw [Array.getElem?_setIfInBounds_ne (fun h => hdist j hj e h.symm)]
      have hmap : (∀ j ∈ Ds.getD k [], j < n ∧ j ≠ i) → ((Ds.getD k []).map fun j => (Fs.getD j any).past w0 ((a.put (some (ts.getD i 0)) v).tmps.getD (ts.getD j 0) undef) (if j = i then w else B j) (if j = i then w' else A j)) = (Ds.getD k []).map fun j => (Fs.getD j any).past w0 (a.tmps.getD (ts.getD j 0) undef) (B j) (A j) := fun hall =>
        List.map_congr_left fun j hj => by
          obtain ⟨h1, h2⟩ := hall j hj
          simp only [hpt j h1 h2, if_neg h2]
      by_cases e2 : k = i
      · subst e2
        have hall : ∀ j ∈ Ds.getD k [], j < n ∧ j ≠ k := fun j hj => ⟨(hds j hj).1, fun e => by
          have hjl := hdone j (hds j hj).1 (hds j hj).2
          rw [e, getD_both hun] at hjl; cases hjl⟩
        refine ⟨?_, ?_, fun j hj => ?_, ?_⟩
        · rw [hmap hall, put_at a v haN, ← hdl]
          simp only [if_true]
          exact hf
        · simp only [if_true]; exact Below.refl _ _
        · simp only [if_true, if_neg (hall j hj).2]
          exact (hfs j (hds j hj).1 (hdone j (hds j hj).1 (hds j hj).2)).2.1
        · simp only [if_true]; exact M.ext
      · have hk2 : listed.getD k false = true := by rw [getD_set_ne false (fun h => e2 h.symm)] at hlk; exact hlk
        obtain ⟨h1, h2, h3, h4⟩ := hfs k hk hk2
        have hall : ∀ j ∈ Ds.getD k [], j < n ∧ j ≠ i := fun j hj => by
          obtain ⟨ok, hok, _, _, _, hdk, _, _, _⟩ := headB_at hB hk
          obtain ⟨hjn, hjw⟩ := hdk j hj
          refine ⟨hjn, fun e => ?_⟩
          have hjl : listed.getD j false = true := by
            obtain ⟨oj, hoj, e', he', hb', hon⟩ := Region.waitsFor_spec hjw
            rw [← hon]; exact M.inv.closed k oj hoj hk2 e' he' hb'
          rw [e, getD_both hun] at hjl; cases hjl
        refine ⟨?_, ?_, fun j hj => ?_, ?_⟩
        · rw [hmap hall, hpt k hk e2]; simp only [if_neg e2]; exact h1
        · simp only [if_neg e2]; exact h2.trans hx
        · simp only [if_neg e2, if_neg (hall j hj).2]
          exact h3 j hj
        · simp only [if_neg e2]; exact h4
  have D := hD (fun a' w' => a'.defers = ad.defers ∧ (Fs.getD i any).fact dl (a'.tmps.getD (ts.getD i 0) undef) w w' ∧ Ext w w') (fun v w' h1 h2 => ⟨by rw [hd]; rfl, by rw [hd, put_at ad v hadN]; exact h1, h2⟩)
  unfold wpOp
  simp only [ho]
  rw [hw]
  by_cases hwt : Region.wanted o (yielded ops ad.tmps) = true
  · rw [if_pos hwt] at D ⊢
    refine .inl ?_
    unfold Oper.wp at D ⊢
    rw [he]
    generalize (execOp ad.eval o).run P w = r at D ⊢
    have conv : ∀ v w', (ad.put o.dst v).defers = ad.defers ∧ (Fs.getD i any).fact dl ((ad.put o.dst v).tmps.getD (ts.getD i 0) undef) w w' ∧ Ext w w' → Mid n Fs ts Ds ops a0 w0 (listed.setIfInBounds i true) (a.put o.dst v) w' := by
      rintro v w' ⟨_, h1, h2⟩
      rw [hd, put_at ad v hadN] at h1
      exact fin v w' h1 h2
    cases r with
    | ok m w' =>
      cases m <;> simp only [Oper.upon] at D ⊢
      case value u => exact conv _ _ D
      case skip => exact conv _ _ D
      case defer d =>
        have h1 := D.1
        rw [hd] at h1
        have h2 : d :: ad.defers = ad.defers := h1
        exact absurd (congrArg List.length h2) (by simp)
      case enter f args =>
        refine Calls.mono D fun e w'' he => ?_
        cases e with
        | returned u => exact conv _ _ he
        | panicked c => exact hQ _ _ _ _ he
        | outgrown => exact he
      case row row args => exact Rows.mono D fun u w'' he => conv _ _ he
    | halt x w' =>
      cases x <;> simp only [Oper.upon] at D ⊢
      case panic u => exact hQ _ _ _ _ D
  · rw [if_neg hwt] at D ⊢
    obtain ⟨_, h1, h2⟩ := D
    rw [hd, put_at ad _ hadN] at h1
    exact fin _ _ h1 h2

theorem Behind.at {w0 w : World} {K : Act → Prop} {V : Nat → Value} {A B : Nat → World} {G : Nat → Say} : ∀ {Fs : List Say} {ts : List Tmp} {Ds : List (List Nat)} {m : Nat} {a : Act} {s : Nat → Value}, Behind w0 w ((List.range m).map fun j => (G j).past w0 (V j) (B j) (A j)) Fs ts Ds a K → Fs.length = ts.length → Ds.length = ts.length →
    (∀ i, i < ts.length → G (m + i) = Fs.getD i any ∧ s (ts.getD i 0) = V (m + i) ∧ (Fs.getD i any).fact ((Ds.getD i []).map fun j => (G j).past w0 (V j) (B j) (A j)) (V (m + i)) (B (m + i)) (A (m + i)) ∧ Ext (A (m + i)) w ∧ (∀ j ∈ Ds.getD i [], j < m + i ∧ Ext (A j) (B (m + i))) ∧ Ext w0 (B (m + i))) →
    K (putAll ts s (List.range ts.length) a)
  | [], [], [], m, a, s, h, _, _, _ => h
  | F :: Fs, t :: ts, d :: Ds, m, a, s, h, hl, hl2, hf => by
    obtain ⟨hG, h0, h1, h2, h3, h4⟩ := hf 0 (by simp)
    have hG : G (m + 0) = F := hG
    have h1 : F.fact (d.map fun j => (G j).past w0 (V j) (B j) (A j)) (V (m + 0)) (B (m + 0)) (A (m + 0)) := h1
    have hat : ∀ j ∈ d, ((List.range m).map fun j => (G j).past w0 (V j) (B j) (A j)).getD j (undef, w, w) = (G j).past w0 (V j) (B j) (A j) := fun j hj => by
      have h5 := (h3 j hj).1
      rw [Nat.add_zero] at h5
      simp [List.getD_eq_getElem?_getD, h5]
    have e1 : (d.map fun j => ((List.range m).map fun j => (G j).past w0 (V j) (B j) (A j)).getD j (undef, w, w)) = d.map fun j => (G j).past w0 (V j) (B j) (A j) := List.map_congr_left hat
    have h5 : Behind w0 w (((List.range m).map fun j => (G j).past w0 (V j) (B j) (A j)) ++ [F.past w0 (V (m + 0)) (B (m + 0)) (A (m + 0))]) Fs ts Ds (a.put (some t) (V (m + 0))) K := by
      cases F with
      | is c =>
        have e : V (m + 0) = c := h1
        rw [e]
        exact h
      | tells F =>
        refine h (V (m + 0)) (B (m + 0)) (A (m + 0)) (by rw [e1]; exact h1) h2 h4 (fun j hj => ?_)
        rw [hat j hj]
        cases G j with
        | is c => exact h4
        | tells F => exact (h3 j hj).2
    have e2 : ((List.range m).map fun j => (G j).past w0 (V j) (B j) (A j)) ++ [F.past w0 (V (m + 0)) (B (m + 0)) (A (m + 0))] = (List.range (m + 1)).map fun j => (G j).past w0 (V j) (B j) (A j) := by rw [List.range_succ, List.map_append, ← hG]; rfl
    rw [e2] at h5
    have H := Behind.at (s := s) h5 (by simpa using hl) (by simpa using hl2) fun i hi => by
      have := hf (i + 1) (by simpa using hi)
      simpa [Nat.add_assoc, Nat.add_comm 1 i] using this
    have e : putAll (t :: ts) s (List.range (t :: ts).length) a = putAll ts s (List.range ts.length) (a.put (some t) (V (m + 0))) := by
      rw [List.length_cons, List.range_succ_eq_map, ← h0]
      show putAll (t :: ts) s ((List.range ts.length).map Nat.succ) (a.put (some t) (s t)) = putAll ts s (List.range ts.length) (a.put (some t) (s t))
      generalize a.put (some t) (s t) = b
      generalize List.range ts.length = r
      induction r generalizing b with
      | nil => rfl
      | cons x r ih => exact ih _
    rw [e]; exact H
  | [], _ :: _, _, _, _, _, _, hl, _, _ => by simp at hl
  | _ :: _, [], _, _, _, _, _, hl, _, _ => by simp at hl
  | [], [], _ :: _, _, _, _, _, _, hl, _ => by simp at hl
  | _ :: _, _ :: _, [], _, _, _, _, _, hl, _ => by simp at hl

theorem mid_all {n N : Nat} {Fs : List Say} {ts : List Tmp} {Ds : List (List Nat)} {a0 : Act} {w0 : World} {l : List Oper} (hN : a0.tmps.size = N) (hQ : ∀ c a b w, Q (.panic c) a w → Q (.panic c) b w)
    (hts : ts.length = n) (hFs : Fs.length = n) (hn : n < ops.size) (hs : Region.sinkB .any ops n = true) (hc : Region.chainB .any ops n = true)
    (hB : headB .any ops n N ts Ds = true) (hl : ∀ i, i < n → l[i]? = ops[i]?) (H : Heads P ops Q Fs ts a0 w0 l Ds Fs) {g : Nat}
    (hfin : ∀ listed a w, (∀ i, i < ops.size → listed.getD i false = decide (i < n)) → listed.size = ops.size → Ext w0 w → a = putAll ts (fun t => a.tmps.getD t undef) (List.range n) a0 → (∃ B A : Nat → World, ∀ i, i < n → (Fs.getD i any).fact ((Ds.getD i []).map fun j => (Fs.getD j any).past w0 (a.tmps.getD (ts.getD j 0) undef) (B j) (A j)) (a.tmps.getD (ts.getD i 0) undef) (B i) (A i) ∧ Ext (A i) w ∧ (∀ j ∈ Ds.getD i [], Ext (A j) (B i)) ∧ Ext w0 (B i)) → wpAny P .any ops Q g listed a w) :
    ∀ (k : Nat) (listed : Array Bool) (a : Act) (w : World), ((List.range n).filter fun i => !listed.getD i false).length = k → Mid n Fs ts Ds ops a0 w0 listed a w → wpAny P .any ops Q (k + g) listed a w
  | 0, listed, a, w, hk, M => by
    have hall : ∀ i, i < n → listed.getD i false = true := fun i hi => by
      have h0 := List.eq_nil_of_length_eq_zero hk
      have := (List.filter_eq_nil_iff.1 h0) i (List.mem_range.2 hi)
      simpa using this
    rw [Nat.zero_add]
    refine hfin listed a w (fun i hi => ?_) M.inv.size M.ext ?_ (by
      obtain ⟨B, A, hf⟩ := M.facts
      exact ⟨B, A, fun i hi => hf i hi (hall i hi)⟩)
    · by_cases hin : i < n
      · rw [hall i hin, decide_eq_true hin]
      · rw [decide_eq_false hin]
        exact getD_both (M.inv.tail i (by omega) hi)
    · obtain ⟨h1, h2⟩ := putAll_size ts (fun t => a.tmps.getD t undef) (List.range n) a0
      have et : a.tmps = (putAll ts (fun t => a.tmps.getD t undef) (List.range n) a0).tmps := by
        apply Array.ext_getElem?
        intro t
        rcases Nat.lt_or_ge t a0.tmps.size with hlt | hge
        · rw [putAll_at _ _ _ _ _ hlt]
          by_cases hj : ∃ j ∈ List.range n, ts.getD j 0 = t
          · rw [if_pos hj]
            have : t < a.tmps.size := by rw [M.size]; exact hlt
            simp [this]
          · rw [if_neg hj]
            exact M.old t fun j hj1 _ e => hj ⟨j, List.mem_range.2 hj1, e⟩
        · rw [Array.getElem?_eq_none (by rw [M.size]; exact hge), Array.getElem?_eq_none (by rw [h1]; exact hge)]
      have ed := M.defers.trans h2.symm
      cases a with
      | mk ta da =>
        cases hp : putAll ts (fun t => (Act.mk ta da).tmps.getD t undef) (List.range n) a0 with
        | mk tb db =>
          rw [hp] at et ed
          simp only at et ed
          rw [et, ed]
  | k + 1, listed, a, w, hk, M => by
    have hex : ∃ i, i < n ∧ listed.getD i false = false := by
      have : ((List.range n).filter fun i => !listed.getD i false) ≠ [] := fun h => by rw [h] at hk; simp at hk
      obtain ⟨i, hi⟩ := List.exists_mem_of_ne_nil _ this
      simp only [List.mem_filter, List.mem_range, Bool.not_eq_true'] at hi
      exact ⟨i, hi.1, hi.2⟩
    obtain ⟨u, hu, hlu⟩ := hex
    have hlt : ∀ t, n ≤ t → t ∉ Region.ready .any ops listed := tail_waits hs hc hn M.inv (n - u) u rfl hu (getD_in (by rw [M.inv.size]; omega) hlu)
    have hne : Region.ready .any ops listed ≠ [] := by
      have least : ∀ m, ∀ u, u ≤ m → u < n → listed.getD u false = false → ∃ v, v < n ∧ listed.getD v false = false ∧ ∀ x, x < v → listed.getD x false = true := by
        intro m
        induction m with
        | zero => intro u hm hu hlu; exact ⟨u, hu, hlu, fun x hx => by omega⟩
        | succ m ih =>
          intro u hm hu hlu
          by_cases hx : ∃ x, x < u ∧ listed.getD x false = false
          · obtain ⟨x, hxu, hlx⟩ := hx
            exact ih x (by omega) (by omega) hlx
          · refine ⟨u, hu, hlu, fun x hxu => ?_⟩
            cases hlx : listed.getD x false with
            | true => rfl
            | false => exact absurd ⟨x, hxu, hlx⟩ hx
      obtain ⟨v, hv, hlv, hbelow⟩ := least u u (Nat.le_refl _) hu hlu
      obtain ⟨o, ho, _, _, _, _, _, _, hed⟩ := headB_at hB hv
      have hm : v ∈ Region.ready .any ops listed := mem_ready.2 ⟨getD_in (by rw [M.inv.size]; omega) hlv, o, ho, fun e he hb => hbelow _ (hed e he hb)⟩
      exact fun h => by rw [h] at hm; cases hm
    rw [show k + 1 + g = (k + g) + 1 by omega]
    refine ⟨fun h => absurd h hne, fun i hi => ?_⟩
    have hin : i < n := by
      rcases Nat.lt_or_ge i n with h | h
      · exact h
      · exact absurd hi (hlt i h)
    refine wpOp_mono (fun a' w' M' => mid_all hN hQ hts hFs hn hs hc hB hl H hfin k _ a' w' ?_ M') (mid_step hN hQ hB hl H M hin hi)
    have hiu : listed.getD i false = false := by
      have := (mem_ready.1 hi).1
      exact getD_both this
    have key : ∀ m, m ≤ n → ((List.range m).filter fun j => !(listed.setIfInBounds i true).getD j false).length = ((List.range m).filter fun j => !listed.getD j false).length - if i < m then 1 else 0 := by
      intro m
      induction m with
      | zero => intro _; simp
      | succ m ih =>
        intro hm
        rw [List.range_succ, List.filter_append, List.filter_append, List.length_append, List.length_append, ih (by omega)]
        have hpos : i < m → 1 ≤ ((List.range m).filter fun j => !listed.getD j false).length := fun him => by
          have : i ∈ (List.range m).filter fun j => !listed.getD j false := by simp [him]; simpa using hiu
          exact List.length_pos_of_mem this
        by_cases e : i = m
        · subst e
          have h1 : (listed.setIfInBounds i true).getD i false = true := by
            have : i < listed.size := by rw [M.inv.size]; omega
            simp [this]
          simp only [List.filter_cons, List.filter_nil, h1, hiu]
          simp
        · simp only [List.filter_cons, List.filter_nil]
          rw [getD_set_ne false e]
          by_cases him : i < m
          · have := hpos him
            have e1 : (if i < m then 1 else 0) = 1 := if_pos him
            have e2 : (if i < m + 1 then 1 else 0) = 1 := if_pos (by omega)
            rw [e1, e2]; omega
          · have e1 : (if i < m then 1 else 0) = 0 := if_neg him
            have e2 : (if i < m + 1 then 1 else 0) = 0 := if_neg (by omega)
            rw [e1, e2]; omega
    rw [key n (Nat.le_refl _), hk, if_pos hin]; omega
/-- A region that draws its order: its first operations each by a fact of its own, the others, which wait for all of them, one behind the other. -/
theorem wp_region_abs {id : Nat} {Q : Exit → Act → World → Prop} {a : Act} {w : World} {l : List Oper} (n N : Nat) (Fs : List Say) (ts : List Tmp) (Ds : List (List Nat)) (hm : P.follows .mixedOrders = true) (hN : a.tmps.size = N) (hFs : Fs.length = n) (hDs : Ds.length = n)
    (hB : absB l.toArray n N ts Ds = true) (hQ : ∀ c a b w, Q (.panic c) a w → Q (.panic c) b w)
    (H : Heads P l.toArray Q Fs ts a w.drew (l.take n) Ds Fs)
    (R : ∀ w', Ext w.drew w' → Behind w.drew w' [] Fs ts Ds a (fun a' => wpList P l.toArray Q (l.drop n) a' w')) : (Code.region id l.toArray true).wp P Q a w := by
  simp only [absB, Bool.and_eq_true, decide_eq_true_eq] at hB
  obtain ⟨⟨⟨⟨⟨hts, hn⟩, hs⟩, hc⟩, hh⟩, hseq⟩ := hB
  have hn' : n < l.length := by simpa using hn
  refine wp_region_any hm ?_
  have inv0 : HeadInv .any l.toArray n (Array.replicate l.toArray.size false) :=
    ⟨by simp, fun j oj _ hl => (by rw [getD_replicate_false] at hl; cases hl), fun t _ ht => getD_in (by simpa using ht) (getD_replicate_false _ _)⟩
  have key := mid_all (g := (l.drop n).length) hN hQ hts hFs hn hs hc hh (fun i hi => by simp [hi]) H (fun listed a' w' hl hz hx ha hf => by
    have hl2 : listed = (Array.replicate n true) ++ Array.replicate (l.toArray.size - n) false := by
      apply Array.ext
      · rw [hz]; simp; omega
      · intro i h1 h2
        have h3 := hl i (by rw [← hz]; exact h1)
        rw [Array.getElem_append]
        by_cases hin : i < n
        · rw [decide_eq_true hin] at h3
          simp [hin]
          simpa [h1] using h3
        · rw [decide_eq_false hin] at h3
          simp [hin]
          simpa [h1] using h3
    rw [hl2]
    refine wpAny_of_seq (l.drop n) n _ a' w' (fun j => by simp) (by simpa using hseq) ?_
    obtain ⟨B, A, hf⟩ := hf
    have := Behind.at (m := 0) (G := fun j => Fs.getD j any) (V := fun j => a'.tmps.getD (ts.getD j 0) undef) (A := A) (B := B) (s := fun t => a'.tmps.getD t undef) (R w' hx) (by rw [hFs, hts]) (by rw [hDs, hts]) (fun i hi => by
      rw [hts] at hi
      obtain ⟨h1, h2, h3, h4⟩ := hf i hi
      rw [Nat.zero_add]
      refine ⟨rfl, rfl, h1, h2, fun j hj => ⟨?_, h3 j hj⟩, h4⟩
      obtain ⟨oi, hoi, _, _, _, hdi, _, _, hei⟩ := headB_at hh hi
      obtain ⟨oj, hoj, e', he', hb', hon⟩ := Region.waitsFor_spec (hdi j hj).2
      obtain rfl : oi = oj := Option.some.inj (hoi.symm.trans hoj)
      rw [← hon]; exact hei e' he' hb')
    rw [hts, ← ha] at this
    exact this) _ (Array.replicate l.toArray.size false) a w.drew rfl ⟨inv0, Below.refl _ _, rfl, rfl, fun _ _ => rfl, fun _ => w, fun _ => w, fun i _ hi => by rw [getD_replicate_false] at hi; cases hi⟩
  have e : ((List.range n).filter fun i => !(Array.replicate l.toArray.size false).getD i false).length = n := by
    rw [List.filter_eq_self.2 (fun i _ => by rw [getD_replicate_false]; rfl), List.length_range]
  rw [e, List.length_drop, show n + (l.length - n) = l.toArray.size by simp; omega] at key
  exact key
end
end Go.Proofs.Ytjmjehhmkjhalaa
