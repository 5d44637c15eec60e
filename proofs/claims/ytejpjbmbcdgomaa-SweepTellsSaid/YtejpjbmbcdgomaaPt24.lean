/- SEntr2: put together. -/
import Derived.Test.YtejpjbmbcdgomaaPt23
/- entries: the function that is ranged over. -/
namespace Go.Proofs.Ytejpjbmbcdgomaa
set_option maxRecDepth 100000
open Go.RowKit

/-- The loop over the tables. -/
structure EInv (J : Nat → (Nat → Prop) → World → Prop) (ps : Nat → List Ix) (i0 l : Nat) (W wr : World) (O0 O O1 : Nat → Prop) (b3 bi : Nat) (iv : Int) (i : Nat) (ds : List Deferred) : Prop where
  num : 0 ≤ iv ∧ i = min iv.toNat 4 ∧ i0 ≤ i
  box : wr.heap[bi]? = some (.cells #[.int .i64 iv] 3 (0, 0))
  yb : wr.heap[b3]? = some (.cells #[.func (.yield l) #[] #[]] 169 (0, 0))
  j : J (offE ps i0 i) O1 wr
  kp : Kps O0 W wr
  sub : ∀ q, O q → O1 q
  own : O1 b3 ∧ O1 bi ∧ ∀ d ∈ ds, ∀ r, d.target = .collected r → O1 r
  lt : ∀ q, O1 q → q < wr.heap.size
  marks : Marks ds wr
  apt : Apt ds
  low : W.heap.size ≤ bi ∧ W.heap.size ≤ wr.heap.size
def boxN (v : Value) (w : World) : Nat := match v with
  | .pointer (some p) => (match w.cell? p with | some (.int _ z) => z.toNat | _ => 0)
  | _ => 0
theorem boxN_at {w : World} {b : Nat} {z : Int} {T : TypeId} (h : w.heap[b]? = some (.cells #[.int .i64 z] T (0, 0))) : boxN (.pointer (some ⟨b, 0, none⟩)) w = z.toNat := by
  have e : w.cell? ⟨b, 0, none⟩ = some (.int .i64 z) := by rw [cell_of_row _ _ 0 _ _ _ h]; rfl
  show (match w.cell? ⟨b, 0, none⟩ with | some (.int _ z) => z.toNat | _ => 0) = z.toNat
  rw [e]
theorem ch_marks {ds : List Deferred} {w w1 : World} {Oo : Nat → Prop} (h : ∀ d ∈ ds, ∀ r, d.target = .collected r → Oo r) (e1 : w1.heap.size = w.heap.size) (e2 : w1.os = w.os) (e3 : w1.tape = w.tape) (e4 : w1.output = w.output) (e5 : ∀ q, (∀ d ∈ ds, d.target ≠ .collected q) → w1.heap[q]? = w.heap[q]?) : Ch w w1 Oo :=
  ⟨e2, e3, e4, by omega, fun q _ hn => e5 q fun d hd e => hn (h d hd q e)⟩
section
variable {J : Nat → (Nat → Prop) → World → Prop} {ps : Nat → List Ix} {i0 l : Nat} {W wr w2 Wd : World} {O0 O O1 Oq : Nat → Prop} {b3 bi D i : Nat} {iv : Int} {ds : List Deferred} {X : (Nat → Prop) → World → Prop}
theorem EInv.marked (h : EInv J ps i0 l W wr O0 O O1 b3 bi iv i ds) (hb2 : Below wr.heap.size wr w2) (hL : Lay X O1 w2 Oq Wd) (hDge : w2.heap.size ≤ D) (hD : Wd.heap[D]? = some (.deferred (some []))) : Marks ({ target := .collected D, args := #[] } :: ds) Wd ∧ Apt ({ target := .collected D, args := #[] } :: ds) := by
  obtain ⟨Oo, _, _, h3, _, _⟩ := hL
  refine ⟨fun d hd => ?_, List.pairwise_cons.2 ⟨fun d hd r e1 e2 => ?_, h.apt⟩⟩
  · rcases List.mem_cons.1 hd with e | e
    · subst e; exact ⟨D, rfl, hD⟩
    · obtain ⟨r, g1, g2⟩ := h.marks d e
      have hr := h.own.2.2 d e r g1
      exact ⟨r, g1, ((h3 r hr).2.2.trans (hb2.block r (h.lt r hr))).trans g2⟩
  · have e3 : D = r := by simpa using e1
    have := h.lt r (h.own.2.2 d hd r e2)
    have := hb2.size
    omega
theorem EInv.next (h : EInv J ps i0 l W wr O0 O O1 b3 bi (i : Int) i ds) (hi : i < 4) (hn : i0 ≤ i) (hJs : ∀ k, St2 (J k)) (hO0 : ∀ q, O0 q → O q) (hb2 : Below wr.heap.size wr w2) (hL : Lay (J (offE ps i0 i + (ps i).length)) O1 w2 Oq Wd) (hOD : Oq D) (hDge : w2.heap.size ≤ D) (hD : Wd.heap[D]? = some (.deferred (some []))) :
    ∃ O2, EInv J ps i0 l W (Wd.alloc (.cells #[.int .i64 ((i : Int) + 1)] 3)) O0 O O2 b3 Wd.heap.size ((i : Int) + 1) (i + 1) ({ target := .collected D, args := #[] } :: ds) := by
  obtain ⟨hm, ha⟩ := h.marked hb2 hL hDge hD
  obtain ⟨Oo, hJd, h2, h3, h4, h5⟩ := hL
  have hb : Below Wd.heap.size Wd (Wd.alloc (.cells #[.int .i64 ((i : Int) + 1)] 3)) := (Below.refl _ _).alloc (Nat.le_refl _) _
  have hs : (Wd.alloc (.cells #[.int .i64 ((i : Int) + 1)] 3)).heap.size = Wd.heap.size + 1 := by simp
  have hkeep : ∀ q, O1 q → (Wd.alloc (.cells #[.int .i64 ((i : Int) + 1)] 3)).heap[q]? = wr.heap[q]? := fun q hq => ((hb.block q (h5 q hq)).trans (h3 q hq).2.2).trans (hb2.block q (h.lt q hq))
  have hDw := (Array.getElem?_eq_some_iff.1 hD).1
  refine ⟨fun q => Oo q ∨ q = Wd.heap.size, ⟨by omega, by omega, by omega⟩, heap_alloc_new Wd _, (hkeep b3 h.own.1).trans h.yb, ?_, ⟨Nat.le_trans h.kp.1 (by have := hb2.size; omega), fun q hq => (hkeep q (h.sub q (hO0 q hq))).trans (h.kp.2 q hq)⟩, fun q e => .inl (h3 q (h.sub q e)).1, ⟨.inl (h3 b3 h.own.1).1, .inr rfl, fun d hd r e => ?_⟩, fun q e => ?_, fun d hd => ?_, ha, by have := h.low.2; have := hb2.size; omega, by have := h.low.2; have := hb2.size; omega⟩
  · rw [offE_next hn]
    exact (hJs _).grow hJd hb ⟨fun q e => .inl e, fun q e => e.imp id fun e => by omega⟩
  · rcases List.mem_cons.1 hd with c | c
    · subst c
      have e3 : D = r := by simpa using e
      exact .inl (h2 r (e3 ▸ hOD))
    · exact .inl (h3 r (h.own.2.2 d c r e)).1
  · rcases e with e | e
    · have := h4 q e; omega
    · omega
  · obtain ⟨r, g1, g2⟩ := hm d hd
    exact ⟨r, g1, (hb.block r (Array.getElem?_eq_some_iff.1 g2).1).trans g2⟩
end
set_option maxHeartbeats 16000000 in
theorem entries_hands {w : World} {sb b1 b2 : Nat} {t k : Int} {ts : Tb} {O0 : Nat → Prop} (hf : w.heap[b1]? = some (.cells #[.int .i64 t, .int .i64 k] 42 (0, 0))) (hs : w.heap[b2]? = some (.cells #[.pointer (some ⟨sb, 0, none⟩)] 27 (0, 0))) (h1 : O0 b1) (h2 : O0 b2) (hN : ∀ i, i < 4 → (ts i).length ≤ 100000) :
    Hands2 Try.prog 89 #[.pointer (some ⟨b1, 0, none⟩), .pointer (some ⟨b2, 0, none⟩)] O0 (fromE t k ts).length (encE (fromE t k ts)) (fun q W => ∀ i, i0F t ≤ i → i < 4 → offE (partF t k ts) (i0F t) i = q → TabAt W sb i (ts i)) w := by
  intro l J Jx W O hW hJ hJx hRq hY h0 hsub hlt
  refine callsIn_wide.2 ((callsIn_wide (n := 11)).1 ?_)
  have HBX : Hid (∀ W1, Kps O0 W W1 → W1.heap[b1]? = some (.cells #[.int .i64 t, .int .i64 k] 42 (0, 0)) ∧ W1.heap[b2]? = some (.cells #[.pointer (some ⟨sb, 0, none⟩)] 27 (0, 0))) :=
    Lib.hid fun W1 hk => ⟨((hW.trans hk).2 b1 h1).trans hf, ((hW.trans hk).2 b2 h2).trans hs⟩
  have hp1 := HBX.out W (Kps.refl _ _)
  have hi04 : i0F t ≤ 4 := Nat.min_le_right _ _
  obtain ⟨ps, hps⟩ : ∃ ps, ps = partF t k ts := ⟨_, rfl⟩
  have hpl : ∀ i, i < 4 → (ps i).length ≤ 100000 := fun i hi => by rw [hps]; exact Nat.le_trans (List.length_filter_le _ _) (hN i hi)
  have HPS := Lib.hid hps
  have HEL : Hid ((fromE t k ts).length = offE ps (i0F t) 4) := Lib.hid (by rw [hps]; rfl)
  have HEA : Hid (∀ i q (hq : q < (ps i).length), i0F t ≤ i → i < 4 → (fromE t k ts)[offE ps (i0F t) i + q]? = some ⟨i, (ps i)[q]⟩) := Lib.hid fun i q hq h1 h2 => by
    have := allE_at (ps := ps) (i0 := i0F t) (i := i) (m := 4 - i0F t) (q := q) h1 (by omega) hq
    rw [← this, hps]; rfl
  have HI0 : Hid (i0F t = min (max t 0).toNat 4) := Lib.hid rfl
  rw [← hps] at hRq
  obtain ⟨E, hE⟩ : ∃ E, E = fromE t k ts := ⟨_, rfl⟩
  rw [← hE] at HEL HEA hY hRq ⊢
  obtain ⟨i0, hi0⟩ : ∃ i0, i0 = i0F t := ⟨_, rfl⟩
  rw [← hi0] at HEL HEA HI0 hRq hi04
  have HJ := Lib.hid hJ
  have HJX := Lib.hid hJx
  have HRQ := Lib.hid hRq
  have HY := Lib.hid hY
  have H0 := Lib.hid h0
  have HSUB := Lib.hid hsub
  have HLT := Lib.hid hlt
  have HPL := Lib.hid hpl
  have HO12 := Lib.hid (And.intro h1 h2)
  have HI4 := Lib.hid hi04
  have HTS := Lib.hid hN
  have ga : ∀ (o : Obj), (W.alloc o).cell? ⟨b1, 0, none⟩ = some (.int .i64 t) := fun o => by
    rw [cell_of_row _ _ 0 _ _ _ (((Below.refl _ W).alloc (Nat.le_refl _) o).block _ (Array.getElem?_eq_some_iff.1 hp1.1).1 |>.trans hp1.1)]; rfl
  obtain ⟨W1, hW1⟩ : ∃ W1, W1 = (W.alloc (.cells #[.func (.yield l) #[] #[]] 169)).alloc (.cells #[.int .i64 (max t 0)] 3) := ⟨_, rfl⟩
  have hbw : Below W.heap.size W W1 := by rw [hW1]; exact ((Below.refl _ _).alloc (Nat.le_refl _) _).alloc (by simp) _
  have hs1 : W1.heap.size = W.heap.size + 2 := by rw [hW1]; simp
  have hy1 : W1.heap[W.heap.size]? = some (.cells #[.func (.yield l) #[] #[]] 169 (0, 0)) := by
    rw [hW1, ((Below.refl _ (W.alloc (.cells #[.func (.yield l) #[] #[]] 169))).alloc (Nat.le_refl _) _).block _ (by simp)]
    exact heap_alloc_new W _
  have hx1 : W1.heap[W.heap.size + 1]? = some (.cells #[.int .i64 (max t 0)] 3 (0, 0)) := by
    have := heap_alloc_new (W.alloc (.cells #[.func (.yield l) #[] #[]] 169)) (.cells #[.int .i64 (max t 0)] 3)
    have e : (W.alloc (.cells #[.func (.yield l) #[] #[]] 169)).heap.size = W.heap.size + 1 := by simp
    rw [e, ← hW1] at this
    exact this
  have HSTART : Hid (EInv J ps i0 l W W1 O0 O (fun q => O q ∨ q = W.heap.size ∨ q = W.heap.size + 1) W.heap.size (W.heap.size + 1) (max t 0) i0 []) := Lib.hid
    ⟨⟨by omega, HI0.out, Nat.le_refl _⟩, hx1, hy1, by
      rw [offE_start]
      exact (hJ 0).grow h0 hbw ⟨fun q e => .inl e, fun q e => by
        rcases e with e | e | e
        · exact .inl e
        · exact .inr (by omega)
        · exact .inr (by omega)⟩, Kps.of_below hbw fun q e => hlt q (hsub q e), fun q e => .inl e, ⟨.inr (.inl rfl), .inr (.inr rfl), fun d hd => by simp at hd⟩, fun q e => by
      rcases e with e | e | e
      · have := hlt q e; omega
      · omega
      · omega, fun d hd => by simp at hd, List.Pairwise.nil, by omega, by omega⟩
  obtain ⟨b3, hb3⟩ : ∃ b3, b3 = W.heap.size := ⟨_, rfl⟩
  rw [← hb3] at HSTART
  have HW1 := Lib.hid hW1
  have HB3 := Lib.hid hb3
  clear hJ hJx hRq hY h0 hsub hlt hpl h1 h2 hi04 hW hf hs hp1 hps hE hi0 hN hW1 hbw hs1 hy1 hx1
  refine callsIn_of_wp_marks Try.func89 rfl trivial ?_ rfl
  simp only [Try.ntmps89, List.size_toArray, List.length_cons, List.length_nil, Nat.reduceAdd, Nat.reduceSub, Array.replicate_succ, Array.replicate_zero, List.push_toArray, List.append_toArray, List.nil_append, List.cons_append]
  gi_wp2_with fail
  rw [← hb3]
  clear hb3 ga
  refine wpIn_loop (fun a wr => ∃ (u4 u5 u6 u7 u11 u12 u13 u14 u15 u16 u17 u18 u19 u20 u21 u22 u23 u24 u25 u26 u27 u28 u29 u30 u31 u32 u33 u34 u35 u36 : Value) (ds : List Deferred) (iv : Int) (i bi : Nat) (O1 : Nat → Prop), a = { tmps := #[.func (.yield l) #[] #[], .pointer (some ⟨b1, 0, none⟩), .pointer (some ⟨b2, 0, none⟩), .pointer (some ⟨b3, 0, none⟩), u4, u5, u6, u7, .pointer (some ⟨b1, 0, none⟩), .int .i64 t, .int .i64 (max t 0), u11, u12, u13, u14, u15, u16, u17, u18, u19, u20, u21, u22, u23, u24, u25, u26, u27, u28, u29, u30, u31, u32, u33, u34, u35, u36], defers := ds } ∧ u4 = .pointer (some ⟨bi, 0, none⟩) ∧ EInv J ps i0 l W wr O0 O O1 b3 bi iv i ds) (fun a w => 4 - boxN (a.tmps.getD 4 undef) w) ?_ ?_
  · exact ⟨_, _, _, _, _, _, _, _, _, _, _, _, _, _, _, _, _, _, _, _, _, _, _, _, _, _, _, _, _, _, [], max t 0, i0, b3 + 1, _, rfl, rfl, by rw [HW1.out] at HSTART; exact HSTART.out⟩
  · rintro a wr ⟨u4, u5, u6, u7, u11, u12, u13, u14, u15, u16, u17, u18, u19, u20, u21, u22, u23, u24, u25, u26, u27, u28, u29, u30, u31, u32, u33, u34, u35, u36, ds, iv, i, bi, O1, rfl, rfl, hrel⟩
    have HR := Lib.hid hrel
    have hbx := (HBX.out _ hrel.kp)
    have x1 : wr.cell? ⟨b1, 0, none⟩ = some (.int .i64 t) := by rw [cell_of_row _ _ 0 _ _ _ hbx.1]; rfl
    have x2 : wr.cell? ⟨b1, 1, none⟩ = some (.int .i64 k) := by rw [cell_of_row _ _ 1 _ _ _ hbx.1]; rfl
    have x3 : wr.cell? ⟨b2, 0, none⟩ = some (.pointer (some ⟨sb, 0, none⟩)) := by rw [cell_of_row _ _ 0 _ _ _ hbx.2]; rfl
    have x4 : wr.cell? ⟨bi, 0, none⟩ = some (.int .i64 iv) := by rw [cell_of_row _ _ 0 _ _ _ hrel.box]; rfl
    obtain ⟨n0, n1, n2⟩ := hrel.num
    by_cases h4 : iv < 4
    · obtain ⟨rfl, hi4⟩ : iv = (i : Int) ∧ i < 4 := by omega
      have d4 : decide ((i : Int) < 4) = true := decide_eq_true h4
      obtain ⟨b, F, d, hc, hTL⟩ := HRQ.out _ O1 wr (by rw [HEL.out]; exact offE_le n2 (by omega)) hrel.j i n2 hi4 rfl
      have HTB := Lib.hid (table_at hi4 hc)
      have HNW := Lib.hid (And.intro n2 hi4)
      have hlen : (ts i).length ≤ 100000 := HTS.out i hi4
      have HRG := Lib.hid (fun lo => trange_any hTL hlen lo 9223372036854775807)
      have HPI : Hid (ps i = rng (if (i : Int) = t then k else loI) hiI (ts i)) := Lib.hid (by rw [HPS.out]; rfl)
      clear hrel hbx n0 n1 n2 h4 hc hTL hlen
      by_cases ht : (i : Int) = t
      case' pos =>
        have d5 : ((i : Int) == t) = true := beq_iff_eq.2 ht
        have HRG1 := Lib.hid (HRG.out k)
        have HPJ : Hid (rng k 9223372036854775807 (ts i) = ps i) := Lib.hid (by rw [HPI.out, if_pos ht]; rfl)
        rw [HPJ.out] at HRG1
        clear ht HRG
        gi_wp2_with fail
      case' neg =>
        have d5 : ((i : Int) == t) = false := by simpa using ht
        have HRG1 := Lib.hid (HRG.out (-9223372036854775808))
        have HPJ : Hid (rng (-9223372036854775808) 9223372036854775807 (ts i) = ps i) := Lib.hid (by rw [HPI.out, if_neg ht]; rfl)
        rw [HPJ.out] at HRG1
        clear ht HRG
        gi_wp2_with fail
      all_goals
        refine ⟨trivial, ?_⟩
        refine (callsIn_wide.2 HTB.out).mono ?_
        rintro e w1 ⟨rfl, rfl⟩
        gi_wp2_with fail
        refine ⟨trivial, ?_⟩
        refine (callsIn_wide.2 HRG1.out).mono ?_
        rintro e w2 ⟨rfl, hbag, hb2⟩
        obtain ⟨_, v, hcell, hown⟩ := hbag
        obtain ⟨A, cc, hv, hrd, _, _⟩ := rdv_own hown
        obtain ⟨cr, hcr⟩ : ∃ cr, cr = wr.heap.size := ⟨_, rfl⟩
        have hOge0 : ∀ q, v.ownBlock = some q → wr.heap.size ≤ q ∧ q < w2.heap.size := fun q e => ⟨own_ge hown e, by obtain ⟨cs, e2⟩ := own_at hown e; exact (Array.getElem?_eq_some_iff.1 e2).1⟩
        rw [← hcr] at hcell hown ⊢
        obtain ⟨Oi, hOi⟩ : ∃ Oi : Nat → Prop, Oi = fun q => q = cr ∨ v.ownBlock = some q := ⟨_, rfl⟩
        have hOge : ∀ q, Oi q → wr.heap.size ≤ q ∧ q < w2.heap.size := fun q hq => by
          rw [hOi] at hq
          rcases hq with e | e
          · rw [e]; exact ⟨by omega, (Array.getElem?_eq_some_iff.1 hcell).1⟩
          · exact hOge0 q e
        have hH := range2_hands cr A cc Oi (ps i) w2 (by rw [cell_of_row _ _ 0 _ _ _ hcell, hv]; rfl) hrd (HPL.out i HNW.out.2) (fun q hq => (hOge q hq).2) (by rw [hOi]; exact .inl rfl) (fun b o e => by rw [hOi, hv, e]; exact .inr rfl)
        have hlay : Lay (J (offE ps i0 i + 0)) O1 w2 Oi w2 := ⟨fun q => O1 q ∨ Oi q, (HJ.out _).grow HR.out.j hb2 ⟨fun q e => .inl e, fun q e => e.imp id fun e => hOge q e⟩, fun q e => .inr e,
          fun q e => ⟨.inl e, fun c => by have := (hOge q c).1; have := HR.out.lt q e; omega, rfl⟩, fun q e => e.elim (fun e => Nat.lt_of_lt_of_le (HR.out.lt q e) hb2.size) fun e => (hOge q e).2, fun q e => Nat.lt_of_lt_of_le (HR.out.lt q e) hb2.size⟩
        have HOGE := Lib.hid hOge
        have HB2 := Lib.hid hb2
        have HLAY := Lib.hid hlay
        have HB : Hid (w2.heap[b3]? = some (.cells #[.func (.yield l) #[] #[]] 169 (0, 0)) ∧ w2.heap[bi]? = some (.cells #[.int .i64 (i : Int)] 3 (0, 0))) := Lib.hid ⟨(hb2.block _ (HR.out.lt _ HR.out.own.1)).trans HR.out.yb, (hb2.block _ (HR.out.lt _ HR.out.own.2.1)).trans HR.out.box⟩
        clear hOge0 hOge hb2 hlay hcell hown hv hrd hcr hOi
        gi_wp2_with fail
        refine wp_range2 (w0 := w2) (O0 := Oi) (O := Oi) (N := (ps i).length) (enc := encI (ps i)) (Rq := fun _ _ => True) (gf := 88) (lb := #[.pointer (some ⟨cr, 0, none⟩)]) rfl (enters_of Try.func88 (by kernel_rfl) rfl) hH (Kps.refl _ _) (fun _ => rfl)
          (fun q Oq W' => Lay (J (offE ps i0 i + q)) O1 w2 Oq W') (fun c q Oq W' => c = .ret ∧ Lay (Jx (offE ps i0 i + q)) O1 w2 Oq W')
          (fun q => (HJ.out _).lay _ _) (fun c q Oq Oq' Wa Wb h hC hG => ⟨h.1, (HJX.out _).lay _ _ Oq Oq' Wa Wb h.2 hC hG⟩) (fun _ _ _ _ _ => trivial) HLAY.out (fun _ h => h) (fun q hq => (HOGE.out q hq).2) ?round ?done ?stop
        case round =>
          intro l2 lp q ob Oq Wq hq hI hsub2 hlt2 hlp hlpg K hK
          obtain ⟨Oo, hJq, h2, h3, h4, h5⟩ := hI
          obtain ⟨x, hx⟩ : ∃ x, x = (ps i)[q] := ⟨_, rfl⟩
          have hen : encI (ps i) q = #[.int .i64 x.k, .agg #[.int .i64 x.c.v, .int .i64 x.c.s, .bool x.c.dead]] := by rw [encI_at hq, ← hx]; rfl
          rw [hen]
          have hbm : Below Wq.heap.size Wq (Wq.alloc (.cells #[.int .i64 x.c.v, .int .i64 x.c.s, .bool x.c.dead] 44)) := (Below.refl _ _).alloc (Nat.le_refl _) _
          have HBM := Lib.hid hbm
          have HQ := Lib.hid (And.intro hq (And.intro hJq (And.intro h2 (And.intro h3 (And.intro h4 h5)))))
          have HLP := Lib.hid (And.intro hlp (hlt2 lp hlp))
          have HX : Hid ((ps i)[q]? = some x) := Lib.hid (by rw [hx]; exact List.getElem?_eq_getElem hq)
          clear hq hJq h2 h3 h4 h5 hx hen hbm hsub2 hlt2 hlp hlpg hH
          simp only [List.zip_toArray, List.zip_cons_cons, List.zip_nil_right, List.foldl_toArray, List.foldl_cons, List.foldl_nil, List.setIfInBounds_toArray, List.set_cons_succ, List.set_cons_zero]
          gi_wp2_with (rw [Oper.semAt_eq _ _ _ (fun c h => by cases h)]; go_simp)
          refine hK _ _ HBM.out ?_
          clear hK K
          obtain ⟨hq, hJq, h2, h3, h4, h5⟩ := HQ.out
          obtain ⟨z, hz⟩ : ∃ z, z = Wq.heap.size := ⟨_, rfl⟩
          obtain ⟨Wm, hWm⟩ : ∃ Wm, Wm = Wq.alloc (.cells #[.int .i64 x.c.v, .int .i64 x.c.s, .bool x.c.dead] 44) := ⟨_, rfl⟩
          have hbm := HBM.out
          have hzm : Wm.heap[Wq.heap.size]? = some (.cells #[.int .i64 x.c.v, .int .i64 x.c.s, .bool x.c.dead] 44 (0, 0)) := by rw [hWm]; exact heap_alloc_new Wq _
          rw [← hWm] at hbm ⊢
          have hJ1 : J (offE ps i0 i + q) Oo (Wm.putObj lp ob) := (HJ.out _).put _ ((HJ.out _).below hJq hbm) (h2 lp HLP.out.1)
          have hown : ∀ p, O1 p → (Wm.putObj lp ob).heap[p]? = w2.heap[p]? := fun p hp =>
            (World.putObj_heap_other (fun e => (h3 p hp).2.1 (by rw [e]; exact HLP.out.1))).trans ((hbm.block p (h5 p hp)).trans (h3 p hp).2.2)
          have hzb : (Wm.putObj lp ob).heap[z]? = some (.cells #[.int .i64 x.c.v, .int .i64 x.c.s, .bool x.c.dead] 44 (0, 0)) := by
            rw [hz]
            exact (World.putObj_heap_other (by have := HLP.out.2; omega)).trans hzm
          have hszb : (Wm.putObj lp ob).heap.size = Wm.heap.size := World.putObj_size
          obtain ⟨Wb, hWb⟩ : ∃ Wb, Wb = Wm.putObj lp ob := ⟨_, rfl⟩
          rw [← hz]
          rw [← hWb] at hJ1 hown hzb hszb ⊢
          have hbsz : Wq.heap.size ≤ Wb.heap.size := by rw [hszb]; exact hbm.size
          have hyR := HY.out _ Oo Wb (by
            have e1 := offE_next (ps := ps) HNW.out.1
            have e2 := offE_le (ps := ps) (i0 := i0) (i := i + 1) (j := 4) (by have := HNW.out.1; omega) (by have := HNW.out.2; omega)
            rw [HEL.out]; omega) hJ1 (fun p hp => Nat.lt_of_lt_of_le (h4 p hp) hbsz)
          rw [encE_at (HEA.out i q hq HNW.out.1 HNW.out.2), (List.getElem?_eq_some_iff.1 HX.out).2] at hyR
          have yb := (hown b3 HR.out.own.1).trans HB.out.1
          have yi := (hown bi HR.out.own.2.1).trans HB.out.2
          have y0 : Wb.cell? ⟨b3, 0, none⟩ = some (.func (.yield l) #[] #[]) := by rw [cell_of_row _ _ 0 _ _ _ yb]; rfl
          have y1 : Wb.cell? ⟨bi, 0, none⟩ = some (.int .i64 (i : Int)) := by rw [cell_of_row _ _ 0 _ _ _ yi]; rfl
          have z0 : Wb.cell? ⟨z, 0, none⟩ = some (.int .i64 x.c.v) := by rw [cell_of_row _ _ 0 _ _ _ hzb]; rfl
          have z1 : Wb.cell? ⟨z, 1, none⟩ = some (.int .i64 x.c.s) := by rw [cell_of_row _ _ 1 _ _ _ hzb]; rfl
          have z2 : Wb.cell? ⟨z, 2, none⟩ = some (.bool x.c.dead) := by rw [cell_of_row _ _ 2 _ _ _ hzb]; rfl
          obtain ⟨fn, tmps, assign, body, hy, hRr⟩ := hyR
          have HE := Lib.hid (And.intro h2 (And.intro h3 (And.intro h4 (And.intro h5 (And.intro hown hbsz)))))
          have HRR := Lib.hid hRr
          clear hJq h2 h3 h4 h5 hz hWm hbm hzm hJ1 hown hzb hszb hWb hbsz yb yi hRr hq
          gi_wp2_with (rw [Oper.semAt_eq _ _ _ (fun c h => by cases h)]; go_simp)
          refine (round_any HRR.out).mono ?_
          rintro e W3 ⟨hk3, hj3⟩
          have hL : ∀ X : (Nat → Prop) → World → Prop, X Oo W3 → Lay X O1 w2 Oq W3 := fun X hX => ⟨Oo, hX, HE.out.1, fun p e => ⟨(HE.out.2.1 p e).1, (HE.out.2.1 p e).2.1, (hk3.2 p (HE.out.2.1 p e).1).trans (HE.out.2.2.2.2.1 p e)⟩,
            fun p e => Nat.lt_of_lt_of_le (HE.out.2.2.1 p e) (Nat.le_trans HE.out.2.2.2.2.2 hk3.1), fun p e => Nat.lt_of_lt_of_le (HE.out.2.2.2.1 p e) (Nat.le_trans HE.out.2.2.2.2.2 hk3.1)⟩
          have HL := Lib.hid hL
          have HK3 : Hid (Kps Oq Wb W3) := Lib.hid (hk3.mono HE.out.1)
          clear hk3 hL
          rcases hj3 with ⟨rfl, hJ3⟩ | ⟨rfl, hJ3⟩
          · have HJ3 := Lib.hid hJ3
            clear hJ3
            gi_wp2_with (rw [Oper.semAt_eq _ _ _ (fun c h => by cases h)]; go_simp)
            exact ⟨HK3.out, HL.out _ HJ3.out⟩
          · have HJ3 := Lib.hid hJ3
            clear hJ3
            gi_wp2_with (rw [Oper.semAt_eq _ _ _ (fun c h => by cases h)]; go_simp)
            exact ⟨HK3.out, rfl, HL.out _ HJ3.out⟩
        case done =>
          intro D Oq Wd hI hsub2 hOD hlt2 hDge hD
          have HI := Lib.hid hI
          have HD := Lib.hid (And.intro hOD (And.intro hlt2 (And.intro hDge hD)))
          obtain ⟨Oo, hJd, h2, h3, h4, h5⟩ := hI
          have xb := (h3 bi HR.out.own.2.1).2.2.trans HB.out.2
          have x9 : Wd.cell? ⟨bi, 0, none⟩ = some (.int .i64 (i : Int)) := by rw [cell_of_row _ _ 0 _ _ _ xb]; rfl
          have hi4 := HNW.out.2
          have f1 : IntKind.i64.wrap ((i : Int) + 1) = (i : Int) + 1 := by rw [IntKind.wrap_i64]; omega
          clear x1 x2 x3 x4 hH hJd h2 h3 h4 h5 xb hsub2 hOD hlt2 hDge hD
          gi_wp2_with fail
          obtain ⟨O2, hNX⟩ := HR.out.next hi4 HNW.out.1 HJ.out HSUB.out HB2.out HI.out HD.out.1 HD.out.2.2.1 HD.out.2.2.2
          refine ⟨⟨_, _, _, _, _, _, _, _, _, _, _, _, _, _, _, _, _, _, _, _, _, _, _, _, _, _, _, _, _, _, _, (i : Int) + 1, i + 1, Wd.heap.size, O2, rfl, rfl, hNX⟩, ?_⟩
          show 4 - boxN (.pointer (some ⟨Wd.heap.size, 0, none⟩)) _ < 4 - boxN (.pointer (some ⟨bi, 0, none⟩)) _
          rw [boxN_at hNX.box, boxN_at HR.out.box]
          omega
        case stop =>
          rintro D q c Oq Wd hq ⟨rfl, hI⟩ hsub2 hOD hlt2 hDge hD
          have HI := Lib.hid hI
          have HD := Lib.hid (And.intro hq (And.intro hOD (And.intro hlt2 (And.intro hDge hD))))
          clear x1 x2 x3 x4 hH hI hq hsub2 hOD hlt2 hDge hD
          gi_wp2_with fail
          obtain ⟨hm, ha⟩ := HR.out.marked HB2.out HI.out HD.out.2.2.2.1 HD.out.2.2.2.2
          obtain ⟨Oo, hJq, h2, h3, h4, h5⟩ := HI.out
          refine leaves_marks (v := .tuple #[]) _ _ hm ha fun w1 e1 e2 e3 e4 e5 => ⟨by simp [results, Try.results89, go_sem], ⟨_, rfl⟩, Oo, fun p e => (h3 p (HR.out.sub p e)).1, fun p e => by rw [e1]; exact h4 p e, .inr ⟨offE ps i0 i + q, ?_, ?_⟩⟩
          · have f1 := offE_next (ps := ps) HNW.out.1
            have f2 := offE_le (ps := ps) (i0 := i0) (i := i + 1) (j := 4) (by have := HNW.out.1; omega) (by have := HNW.out.2; omega)
            have := HD.out.1
            rw [HEL.out]; omega
          · refine (HJX.out _) Oo Oo Wd w1 hJq (ch_marks (fun d hd r e => ?_) e1 e2 e3 e4 e5) (OG.refl _ _ _)
            rcases List.mem_cons.1 hd with c | c
            · subst c
              have e6 : D = r := by simpa using e
              exact h2 r (e6 ▸ HD.out.2.1)
            · exact (h3 r (HR.out.own.2.2 d c r e)).1
    · have d4 : decide (iv < 4) = false := decide_eq_false h4
      have HI3 : Hid (i = 4) := Lib.hid (by omega)
      clear hrel hbx
      gi_wp2_with fail
      refine leaves_marks (v := .tuple #[]) _ _ HR.out.marks HR.out.apt fun w1 e1 e2 e3 e4 e5 => ⟨by simp [results, Try.results89, go_sem], ⟨_, rfl⟩, O1, HR.out.sub, fun p e => by rw [e1]; exact HR.out.lt p e, .inl ?_⟩
      have hj := HR.out.j
      rw [HI3.out, ← HEL.out] at hj
      exact (HJ.out _) O1 O1 wr w1 hj (ch_marks HR.out.own.2.2 e1 e2 e3 e4 e5) (OG.refl _ _ _)
end Go.Proofs.Ytejpjbmbcdgomaa
