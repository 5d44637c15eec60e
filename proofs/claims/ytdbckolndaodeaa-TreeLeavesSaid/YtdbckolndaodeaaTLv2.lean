/- TreeLeaves: a range tells what there was at the call. -/
import Derived.Test.YtdbckolndaodeaaTPlays
import Derived.Deep.QuietTactic
import Derived.BigQuiet
namespace Go.Proofs.Ytdbckolndaodeaa
set_option maxRecDepth 100000
open Go.RowKit

/-- A tree whose blocks are none of some others. -/
structure TG (w0 w : World) (tb : Nat) (l : List Ix) (d n : Nat) (O : Nat → Prop) : Prop where
  ex : ∃ F, TL w F tb l d ∧ (∀ k, F k → w0.heap.size ≤ k) ∧ ∀ k, O k → ¬ F k
  few : l.length ≤ n
  nums : ∀ x ∈ l, In64 x.k
  b : Below w0.heap.size w0 w
  lt : ∀ k, O k → k < w.heap.size
section
variable {w0 w w1 : World} {tb d n : Nat} {l : List Ix} {O : Nat → Prop}
theorem TG.tn (h : TG w0 w tb l d n O) : TN w0 w tb l d n := by
  obtain ⟨F, h1, h2, _⟩ := h.ex
  exact ⟨⟨F, h1, h2⟩, h.few, h.nums, h.b⟩
theorem TG.later (h : TG w0 w tb l d n O) (hb : Below w.heap.size w w1) : TG w0 w1 tb l d n O := by
  obtain ⟨F, h1, h2, h3⟩ := h.ex
  exact ⟨⟨F, h1.below hb, h2, h3⟩, h.few, h.nums, h.b.trans (hb.mono h.b.size), fun k hk => Nat.lt_of_lt_of_le (h.lt k hk) hb.size⟩
theorem TG.of (h : TN w0 w tb l d n) (hb : Below w.heap.size w w1) : TG w0 w1 tb l d n (fun k => w.heap.size ≤ k ∧ k < w1.heap.size) := by
  obtain ⟨F, h1, h2⟩ := h.ex
  exact ⟨⟨F, h1.below hb, h2, fun k hk e => by have := h1.lt e; omega⟩, h.few, h.nums, h.b.trans (hb.mono h.b.size), fun k hk => hk.2⟩
theorem tg_drop (h : TG w0 w tb l d n O) (hn : n ≤ 100000) (k : Int) : Calls Try.prog 18 #[.pointer (some ⟨tb, 0, none⟩), .int .i64 k] w fun e w' => e = .returned (.tuple #[.agg #[.int .i64 (cv (getC k l)).v, .int .i64 (cv (getC k l)).s, .bool (cv (getC k l)).dead], .bool (getC k l).isSome]) ∧ ∃ d', TG w0 w' tb (del k l) d' n O ∧ ∀ q, O q → w'.heap[q]? = w.heap[q]? := by
  obtain ⟨F, h1, h2, h3⟩ := h.ex
  have hf := h.few
  refine Calls.mono (tdrop_any h1 k (by omega)) ?_
  rintro e w' ⟨rfl, F', d', hT, hC⟩
  have ht := tn_turn h.tn h2 hT hC (Nat.le_trans (List.length_filter_le _ _) hf) fun y hy => h.nums y (List.mem_filter.1 hy).1
  refine ⟨rfl, d', ⟨⟨F', hT, fun k e => ?_, fun k ho e => ?_⟩, ht.few, ht.nums, ht.b, fun k hk => Nat.lt_of_lt_of_le (h.lt k hk) hC.ch.size⟩, fun q hq => hC.ch.block q (h.lt q hq) (h3 q hq)⟩
  · rcases hC.fr k e with e | e
    · exact h2 k e
    · exact Nat.le_trans h.b.size e
  · rcases hC.fr k e with e | e
    · exact h3 k ho e
    · have := h.lt k ho
      omega
end
/-- What the tree holds came of the script. -/
def FromK (os : List Ot) (l : List Ix) : Prop := ∀ x ∈ l, ∃ (j : Nat) (o : Ot), os[j]? = some o ∧ o.k = x.k
theorem FromK.ins {os : List Ot} {l : List Ix} (h : FromK os l) {j : Nat} {o : Ot} (hk : os[j]? = some o) : FromK os (ins (⟨o.k, o.c⟩ : Ix) l) := fun x hx => by
  unfold Go.Proofs.Ytdbckolndaodeaa.ins at hx
  rcases List.mem_append.1 hx with e | e
  · exact h x (List.mem_filter.1 e).1
  · rcases List.mem_cons.1 e with e | e
    · rw [e]; exact ⟨j, o, hk, rfl⟩
    · exact h x (List.mem_filter.1 e).1
/-- None of those dropped is left. -/
def GoneK (os : List Ot) (z : Nat) (l : List Ix) : Prop := FromK os l ∧ ∀ x ∈ l, ∀ (i : Nat) (o : Ot), i < z → os[i]? = some o → o.k ≠ x.k
theorem GoneK.next {os : List Ot} {z : Nat} {l : List Ix} (h : GoneK os z l) {o : Ot} (hk : os[z]? = some o) : GoneK os (z + 1) (del o.k l) := ⟨fun x hx => h.1 x (List.mem_filter.1 hx).1, fun x hx i p hi hp => by
  obtain ⟨h1, h2⟩ := List.mem_filter.1 hx
  rcases Nat.lt_or_ge i z with e | e
  · exact h.2 x h1 i p e hp
  · obtain rfl : i = z := by omega
    rw [hk] at hp
    cases hp
    simp at h2
    exact fun e => h2 e.symm⟩
theorem GoneK.all {os : List Ot} {l : List Ix} (h : GoneK os os.length l) : l = [] := by
  cases l with
  | nil => rfl
  | cons x l =>
    exfalso
    obtain ⟨j, o, h1, h2⟩ := h.1 x (by simp)
    exact h.2 x (by simp) j o (Array.getElem?_eq_some_iff.1 (by simpa using (show os.toArray[j]? = some o by simpa using h1))).1 h1 h2
theorem ris_take {w : World} {A : Option Addr} {l : List Ix} (h : Ris w A l) (k : Nat) : Ris w A (l.take k) := by
  rcases Nat.eq_zero_or_pos (l.take k).length with h0 | h0
  · have e : l.take k = [] := List.eq_nil_of_length_eq_zero h0
    rw [e]
    exact ⟨rfl, rfl, fun hn => absurd hn (by simp)⟩
  · obtain ⟨b, off, rfl, hc⟩ := RowAt.cells h RI.len (by rw [List.length_take] at h0; omega)
    exact RowAt.of RI.len (by decide) rfl b off fun j hj r u hr hu => by
      rw [List.length_take] at hj
      rw [List.getElem_take] at hu
      exact hc j (by omega) r u hr hu
set_option maxHeartbeats 16000000 in
theorem leaves_in (A : Option Addr) (c : Nat) (os : List Ot) (lo hi stop : Int) (w : World) (ho : Ots w A os) (hk : ∀ o ∈ os, In64 o.k) : CallsIn Fence.wide 11 Try.prog 22 #[.slice A os.length c, .int .i64 lo, .int .i64 hi, .int .i64 stop] w fun e w' => e = .returned (.bool true) ∧ Below w.heap.size w w' := by
  obtain ⟨W0, hW0⟩ : ∃ W0, W0 = w.alloc (.cells #[.int .i64 stop] 3) := ⟨_, rfl⟩
  have hb0 : Below w.heap.size w W0 := by rw [hW0]; exact (Below.refl _ _).alloc (Nat.le_refl _) _
  have hx0 : W0.heap[w.heap.size]? = some (.cells #[.int .i64 stop] 3 (0, 0)) := by rw [hW0]; exact heap_alloc_new w _
  obtain ⟨b7, hb7⟩ : ∃ b7, b7 = w.heap.size := ⟨_, rfl⟩
  rw [← hb7] at hx0
  have HB7 := Lib.hid hb7
  have HX0 := Lib.hid hx0
  have HB0 := Lib.hid hb0
  have HW0 := Lib.hid hW0
  have HA := Lib.hid (alive_any W0)
  have HO : Hid (Ots W0 A os) := Lib.hid (RowAt.below ho hb0)
  have HK := Lib.hid hk
  obtain ⟨n, hn⟩ : ∃ n, n = os.length := ⟨_, rfl⟩
  have HN := Lib.hid hn
  rw [← hn]
  clear ho hk hn hW0 hb0 hx0 hb7
  refine callsIn_of_wp_marks Try.func22 rfl trivial ?_ rfl
  simp only [Try.ntmps22, List.size_toArray, List.length_cons, List.length_nil, Nat.reduceAdd, Nat.reduceSub, Array.replicate_succ, Array.replicate_zero, List.push_toArray, List.append_toArray, List.nil_append, List.cons_append]
  refine wpIn_wide.2 ?_
  go_upto_region 1 with fail
  rw [← HW0.out, ← HB7.out]
  clear HW0
  go_wp2_with fail
  refine Calls.mono HA.out ?_
  rintro e w1 ⟨rfl, hb1⟩
  have HB1 := Lib.hid hb1
  clear hb1
  by_cases h3 : 300 < n
  · have d3 : decide ((300 : Int) < (n : Int)) = true := decide_eq_true (by omega)
    clear h3
    go_wp2_with fail
    refine Calls.mono (long_any A n c w1) ?_
    rintro e w2 ⟨rfl, rfl⟩
    go_wp2_with fail
    exact ⟨.bool true, by simp [results, Try.results22, go_sem], rfl, HB0.out.trans (HB1.out.mono HB0.out.size)⟩
  · have d3 : decide ((300 : Int) < (n : Int)) = false := decide_eq_false (by omega)
    have hn3 : n ≤ 300 := by omega
    clear h3
    go_wp2_with fail
    refine Calls.mono (long_any A n c w1) ?_
    rintro e w2 ⟨rfl, rfl⟩
    go_wp2_with fail
    refine Calls.mono (tn_new w1) ?_
    rintro e w2 ⟨tb, rfl, hT⟩
    have HT0 := Lib.hid hT
    clear hT d3
    go_wp2_with fail
    go_loopw [11, 29, 30, 31, 32, 33, 34, 35, 36, 37, 38, 39, 40, 41, 42] (fun _ ix _ _ _ _ _ _ _ _ _ _ _ _ _ wr => ∃ (z d : Nat) (l : List Ix), ix = .int .i64 (z : Int) ∧ z ≤ n ∧ TN w1 wr tb l d z ∧ FromK os l) (fun _ ix _ _ _ _ _ _ _ _ _ _ _ _ _ _ => n - (intOf ix).toNat)
    case atStart => exact ⟨0, 0, [], rfl, by omega, HT0.out, fun x hx => by simp at hx⟩
    case round =>
      obtain ⟨z, d, l, rfl, hz, hT, hF⟩ := hrel
      have HT := Lib.hid hT
      have HF := Lib.hid hF
      clear hT hF
      by_cases hlt : z < n
      · have hzl : z < os.length := by rw [← HN.out]; exact hlt
        have hbw : Below W0.heap.size W0 wr := HB1.out.trans (HT.out.b.mono HB1.out.size)
        obtain ⟨b, off, rfl, hcl⟩ := Ots.cell (RowAt.below HO.out hbw) (by omega)
        obtain ⟨x0, x1, x2, x3, x4⟩ := hcl z hzl
        obtain ⟨o, ho⟩ : ∃ o, o = os[z] := ⟨_, rfl⟩
        have hok : In64 o.k := by rw [ho]; exact HK.out _ (List.getElem_mem hzl)
        have hoz : os[z]? = some o := by rw [ho]; exact List.getElem?_eq_getElem hzl
        rw [← ho] at x0 x1 x2 x3 x4
        have HOZ := Lib.hid hoz
        have HAL := Lib.hid ((Below.refl _ wr).alloc (Nat.le_refl _) (.cells #[.int .i64 o.k, .int .i64 o.c.v, .int .i64 o.c.s, .bool o.c.dead, .bool o.drop] 31))
        have HS := Lib.hid (tn_set (HT.out.later HAL.out) (by omega) ⟨o.k, o.c⟩ hok)
        clear hcl ho hok hoz hbw
        go_wp2_with fail
        refine Calls.mono HS.out ?_
        rintro e w3 ⟨rfl, d2, hT2⟩
        have HT2 := Lib.hid hT2
        clear hT2 HS
        go_wp2_with fail
        go_roundw
        case rel => exact ⟨z + 1, d2, _, by go_num, by omega, HT2.out, HF.out.ins HOZ.out⟩
        case measure => simp [intOf]; omega
      · obtain rfl : z = n := by omega
        have hz9 : z ≤ 99999 := by omega
        rename World => wb
        have HL1 := Lib.hid (list_any HT.out hz9 lo hi)
        obtain ⟨R, hR⟩ : ∃ R, R = rng lo hi l := ⟨_, rfl⟩
        have HRR := Lib.hid hR
        have hrb : R.length ≤ l.length := by rw [hR]; exact List.length_filter_le _ _
        have HRB := Lib.hid (Nat.le_trans hrb HT.out.few)
        have HMB : Hid (∀ x ∈ R, lo ≤ x.k ∧ x.k ≤ hi) := Lib.hid (fun x hx => by
          rw [hR] at hx
          unfold rng at hx
          have := (List.mem_filter.1 hx).2
          simpa using this)
        have HUP : Hid (Up R) := Lib.hid (by
          obtain ⟨F, h1, _⟩ := HT.out.ex
          rw [hR]
          exact h1.up.sub List.filter_sublist)
        rw [← hR] at HL1
        clear hR hrb hlt hz
        go_wp2_with fail
        refine Calls.mono HL1.out ?_
        rintro e w4 ⟨v4, rfl, hQ4, hb4⟩
        obtain ⟨A4, c4, rfl⟩ := own_form hQ4
        have HQ4 := Lib.hid hQ4
        have HB4 := Lib.hid hb4
        obtain ⟨F4, hTL, _⟩ := (HT.out.later hb4).ex
        have HRG := Lib.hid (trange_any hTL (by have := HT.out.few; omega) lo hi)
        rw [← HRR.out] at HRG
        obtain ⟨rl, hrl⟩ : ∃ rl, rl = R.length := ⟨_, rfl⟩
        rw [← hrl]
        have HRL := Lib.hid hrl
        clear hTL hQ4 hb4 HL1 hrl
        go_wp2_with fail
        refine Calls.mono HRG.out ?_
        rintro e w5 ⟨rfl, hG, hb5⟩
        have HG := Lib.hid hG
        have HB5 := Lib.hid hb5
        have HT5 := Lib.hid (TG.of HT.out (HB4.out.trans (hb5.mono HB4.out.size)))
        have hGK : GoneK os 0 l := ⟨HF.out, fun _ _ i _ hi => absurd hi (Nat.not_lt_zero i)⟩
        have HGK := Lib.hid hGK
        obtain ⟨O, hO⟩ : ∃ O : Nat → Prop, O = fun k => wb.heap.size ≤ k ∧ k < w5.heap.size := ⟨_, rfl⟩
        rw [← hO] at HT5
        have HOO := Lib.hid hO
        clear hG hb5 hGK hO HRG HF
        go_wp2_with fail
        go_loopw [15, 53, 54, 55, 56, 57, 58, 59, 60, 61, 62, 63, 64] (fun _ ix _ _ _ _ _ _ _ _ _ _ _ wr => ∃ (y d2 : Nat) (l2 : List Ix), ix = .int .i64 (y : Int) ∧ y ≤ z ∧ TG w1 wr tb l2 d2 z O ∧ GoneK os y l2 ∧ ∀ q, O q → wr.heap[q]? = w5.heap[q]?) (fun _ ix _ _ _ _ _ _ _ _ _ _ _ _ => z - (intOf ix).toNat)
        case atStart => exact ⟨0, d, l, rfl, by omega, HT5.out, HGK.out, fun _ _ => rfl⟩
        case round =>
          obtain ⟨y, d2, l2, rfl, hy, hU, hGo, hKq⟩ := hrel
          have HU := Lib.hid hU
          have HGo := Lib.hid (And.intro hGo hKq)
          clear hU hGo hKq
          by_cases hlt : y < z
          · have hzl : y < os.length := by rw [← HN.out]; exact hlt
            have hbw : Below W0.heap.size W0 wr := HB1.out.trans (HU.out.b.mono HB1.out.size)
            obtain ⟨b, off, rfl, hcl⟩ := Ots.cell (RowAt.below HO.out hbw) (by omega)
            obtain ⟨x0, x1, x2, x3, x4⟩ := hcl y hzl
            obtain ⟨o, ho⟩ : ∃ o, o = os[y] := ⟨_, rfl⟩
            have hoz : os[y]? = some o := by rw [ho]; exact List.getElem?_eq_getElem hzl
            rw [← ho] at x0 x1 x2 x3 x4
            have HOZ := Lib.hid hoz
            have HAL := Lib.hid ((Below.refl _ wr).alloc (Nat.le_refl _) (.cells #[.int .i64 o.k, .int .i64 o.c.v, .int .i64 o.c.s, .bool o.c.dead, .bool o.drop] 31))
            have HD := Lib.hid (tg_drop (HU.out.later HAL.out) (by omega) o.k)
            clear hcl ho hoz hbw
            go_wp2_with fail
            refine Calls.mono HD.out ?_
            rintro e w6 ⟨rfl, d3, hU2, hK2⟩
            have HU2 := Lib.hid hU2
            have HK2 := Lib.hid (fun q (hq : O q) => (hK2 q hq).trans ((HAL.out.block q (HU.out.lt q hq)).trans (HGo.out.2 q hq)))
            clear hU2 hK2 HD
            go_wp2_with fail
            go_roundw
            case rel => exact ⟨y + 1, d3, _, by go_num, by omega, HU2.out, HGo.out.1.next HOZ.out, HK2.out⟩
            case measure => simp [intOf]; omega
          · obtain rfl : y = z := by omega
            have hl0 : l2 = [] := GoneK.all (by rw [← HN.out]; exact HGo.out.1)
            subst hl0
            rename World => wd
            clear hlt hy
            have HW8 : Hid (Below w.heap.size w wd) := Lib.hid (HB0.out.trans ((HB1.out.trans (HU.out.b.mono HB1.out.size)).mono HB0.out.size))
            have HW9 : Hid (Below W0.heap.size W0 wd) := Lib.hid (HB1.out.trans (HU.out.b.mono HB1.out.size))
            go_upto_region 19 with fail
            obtain ⟨W1, hW1⟩ : ∃ W1, W1 = (wd.alloc (.cells #[] 65)).alloc (.cells #[.slice (some ⟨wd.heap.size, 0, none⟩) 0 0] 27) := ⟨_, rfl⟩
            have hb0 : Below wd.heap.size wd (wd.alloc (.cells #[] 65)) := (Below.refl _ _).alloc (Nat.le_refl _) _
            have hb1 : Below wd.heap.size wd W1 := by rw [hW1]; exact hb0.alloc hb0.size _
            have e1 : (wd.alloc (.cells #[] 65)).heap.size = wd.heap.size + 1 := by simp
            have e2 : W1.heap[wd.heap.size + 1]? = some (.cells #[.slice (some ⟨wd.heap.size, 0, none⟩) 0 0] 27 (0, 0)) := by
              have := heap_alloc_new (wd.alloc (.cells #[] 65)) (.cells #[.slice (some ⟨wd.heap.size, 0, none⟩) 0 0] 27)
              rw [e1, ← hW1] at this
              exact this
            have e4 : Below (wd.alloc (.cells #[] 65)).heap.size (wd.alloc (.cells #[] 65)) W1 := by rw [hW1]; exact (Below.refl _ _).alloc (Nat.le_refl _) _
            have HBG : Hid (BagI wd.heap.size W1 (wd.heap.size + 1) []) := Lib.hid ⟨Nat.le_succ _, _, e2, Rio.below (own_empty wd wd.heap.size _ _ _ rfl (Nat.le_refl _)) e4⟩
            have HBW := Lib.hid hb1
            rw [← hW1]
            obtain ⟨_, v, hcell, hown⟩ := HG.out
            have hO1 : ∀ q, wb.heap.size ≤ q → q < w5.heap.size → W1.heap[q]? = w5.heap[q]? := fun q h1 h2 => by
              have hq : O q := by rw [HOO.out]; exact ⟨h1, h2⟩
              exact (hb1.block q (HU.out.lt q hq)).trans (HGo.out.2 q hq)
            have hcl := hO1 _ HB4.out.size (Array.getElem?_eq_some_iff.1 hcell).1
            have hown1 : W1.ownsRow w4.heap.size 63 4 v R.length (rowV Ix.vals R) := own_same hown fun q hq => by
              obtain ⟨_, e⟩ := own_at hown hq
              exact hO1 q (Nat.le_trans HB4.out.size (own_ge hown hq)) (Array.getElem?_eq_some_iff.1 e).1
            have HQ1 : Hid (Rio W1 wb.heap.size (.slice A4 R.length c4) R) := Lib.hid (own_same HQ4.out fun q hq => by
              obtain ⟨_, e⟩ := own_at HQ4.out hq
              have hq4 := (Array.getElem?_eq_some_iff.1 e).1
              exact (hO1 q (own_ge HQ4.out hq) (Nat.lt_of_lt_of_le hq4 HB5.out.size)).trans (HB5.out.block q hq4))
            have hcell1 := hcl.trans hcell
            obtain ⟨A, cc, hv, hrd, _, _⟩ := rdv_own hown1
            obtain ⟨cr, hcr⟩ : ∃ cr, cr = w4.heap.size := ⟨_, rfl⟩
            rw [← hcr] at hcell1 hown1 ⊢
            obtain ⟨OB, hOB⟩ : ∃ OB : Nat → Prop, OB = fun q => q = cr ∨ v.ownBlock = some q := ⟨_, rfl⟩
            have hOt : ∀ q, OB q → q < W1.heap.size ∧ ∃ cs t m, W1.heap[q]? = some (.cells cs t m) ∧ t ≠ 65 ∧ t ≠ 27 := fun q hq => by
              rw [hOB] at hq
              rcases hq with e | e
              · rw [e]; exact ⟨(Array.getElem?_eq_some_iff.1 hcell1).1, _, _, _, hcell1, by decide, by decide⟩
              · obtain ⟨cs, e2⟩ := own_at hown1 e
                exact ⟨(Array.getElem?_eq_some_iff.1 e2).1, _, _, _, e2, by decide, by decide⟩
            have HOT := Lib.hid hOt
            have hH : Hands Try.prog 40 #[.pointer (some ⟨cr, 0, none⟩)] OB R.length (encR R) (fun _ _ _ _ => True) W1 :=
              range_hands cr A cc OB R W1 (by rw [cell_of_row _ _ 0 _ _ _ hcell1, hv]; rfl) hrd (by have := HRB.out; omega) (fun q hq => (hOt q hq).1) (by rw [hOB]; exact .inl rfl) (fun b o e => by rw [hOB, hv, e]; exact .inr rfl)
            have HQD : Hid (Rio wd wb.heap.size (.slice A4 R.length c4) R) := Lib.hid (own_same HQ4.out fun q hq => by
              obtain ⟨_, e⟩ := own_at HQ4.out hq
              have hq4 := (Array.getElem?_eq_some_iff.1 e).1
              have hqO : O q := by rw [HOO.out]; exact ⟨own_ge HQ4.out hq, Nat.lt_of_lt_of_le hq4 HB5.out.size⟩
              exact (HGo.out.2 q hqO).trans (HB5.out.block q hq4))
            have HXD : Hid (wd.heap[b7]? = some (.cells #[.int .i64 stop] 3 (0, 0))) := Lib.hid ((HW9.out.block _ (Array.getElem?_eq_some_iff.1 HX0.out).1).trans HX0.out)
            have HDS : Hid (wd.heap.size ≤ W1.heap.size) := Lib.hid hb1.size
            have HT9 := Lib.hid (HU.out.tn.later hb1)
            clear hb0 hb1 e1 e2 e4 hW1 hcell hown hO1 hcl hown1 hcell1 hv hrd hcr hOB hOt
            go_wp2_with fail
            refine (wpIn_wide (n := 11)).1 ?_
            refine wp_range_made (w0 := W1) (O := OB) (N := R.length) (M := fun _ _ _ _ => True) (gf := 40) (lb := #[.pointer (some ⟨cr, 0, none⟩)]) (enc := encR R) rfl (enters_of Try.func40 (by kernel_rfl) rfl)
              hH (Below.refl _ _) (fun q hq => (HOT.out q hq).1) (fun _ _ => rfl) (fun k v z W l o o' hl h ho hc => h)
              (fun k W => BagI wd.heap.size W (wd.heap.size + 1) (R.take k) ∧ Below wd.heap.size wd W ∧ Keeps OB W1 W ∧ ∀ i : Nat, 0 < i → i ≤ k → (i : Int) ≠ stop) (fun c k W => c = .exit 4 ∧ BagI wd.heap.size W (wd.heap.size + 1) (R.take k) ∧ Below wd.heap.size wd W ∧ (k : Int) = stop)
              (fun k W W' h hb => ⟨h.1.later hb, h.2.1.trans (hb.mono h.2.1.size), h.2.2.1.trans (Keeps.of_below hb fun q hq => Nat.lt_of_lt_of_le (HOT.out q hq).1 h.2.2.1.1), h.2.2.2⟩)
              (fun k W l o o' hl h ho hc => ⟨h.1.turn o' ho hc, h.2.1.grown (grownBy_putObj' W l o') h.2.1.size (fun k e => by cases e; have := HDS.out; omega), h.2.2.1.trans (keeps_put o' (fun e => by have := (HOT.out l e).1; omega) ho), h.2.2.2⟩)
              (fun c k W W' h hb => ⟨h.1, h.2.1.later hb, h.2.2.1.trans (hb.mono h.2.2.1.size), h.2.2.2⟩)
              (fun c k W l o o' hl h ho hc => ⟨h.1, h.2.1.turn o' ho hc, h.2.2.1.grown (grownBy_putObj' W l o') h.2.2.1.size (fun k e => by cases e; have := HDS.out; omega), h.2.2.2⟩)
              ⟨HBG.out, HBW.out, Keeps.refl _ _, fun i h1 h2 => by omega⟩ ?round ?done ?stop
            case round =>
              intro lq lp k ob v0 Wz W hk _ hi hm hlp hob hol K hK
              obtain ⟨hbg, hbw, hkp, hno⟩ := hi
              have HNO := Lib.hid hno
              have HKL := Lib.hid hk
              clear hno
              obtain ⟨x, hx⟩ : ∃ x, x = R[k] := ⟨_, rfl⟩
              have htk : R.take (k + 1) = R.take k ++ [x] := by rw [hx]; exact (List.take_append_getElem hk).symm
              have hen : encR R k v0 = #[.int .i64 x.k, .agg #[.int .i64 x.c.v, .int .i64 x.c.s, .bool x.c.dead]] := by
                unfold encR
                rw [List.getD_eq_getElem?_getD, List.getElem?_eq_getElem hk, hx]
                rfl
              rw [hen]
              have hbm : Below W.heap.size W (W.alloc (.cells #[.int .i64 x.c.v, .int .i64 x.c.s, .bool x.c.dead] 29)) := (Below.refl _ _).alloc (Nat.le_refl _) _
              have HBM := Lib.hid hbm
              have HTK := Lib.hid htk
              have HI := Lib.hid (And.intro hbg (And.intro hbw hkp))
              have HLP := Lib.hid (And.intro hlp (And.intro hob hol))
              clear hx htk hen hbm hbg hbw hkp hlp hob hol hm
              simp only [List.zip_toArray, List.zip_cons_cons, List.zip_nil_right, List.foldl_toArray, List.foldl_cons, List.foldl_nil, List.setIfInBounds_toArray, List.set_cons_succ, List.set_cons_zero]
              gi_wp2_with (rw [Oper.semAt_eq _ _ _ (fun c h => by cases h)]; go_simp)
              refine hK _ _ HBM.out ?_
              clear hK K
              obtain ⟨hlp, hob, o, hol, hoc⟩ := HLP.out
              obtain ⟨hbg, hbw, hkp⟩ := HI.out
              obtain ⟨z, hz⟩ : ∃ z, z = W.heap.size := ⟨_, rfl⟩
              obtain ⟨Wm, hWm⟩ : ∃ Wm, Wm = W.alloc (.cells #[.int .i64 x.c.v, .int .i64 x.c.s, .bool x.c.dead] 29) := ⟨_, rfl⟩
              have hlz : lp < W.heap.size := (Array.getElem?_eq_some_iff.1 hol).1
              have hbm := HBM.out
              have hzm : Wm.heap[W.heap.size]? = some (.cells #[.int .i64 x.c.v, .int .i64 x.c.s, .bool x.c.dead] 29 (0, 0)) := by rw [hWm]; exact heap_alloc_new W _
              rw [← hWm] at hbm ⊢
              have holm := (hbm.block _ hlz).trans hol
              have hbgb := (hbg.later hbm).turn ob holm hoc
              have hszl : wd.heap.size ≤ lp := Nat.le_trans HDS.out hlp
              have hbwb : Below wd.heap.size wd (Wm.putObj lp ob) := (hbw.trans (hbm.mono hbw.size)).grown (grownBy_putObj' Wm lp ob) (hbw.trans (hbm.mono hbw.size)).size (fun k e => by cases e; exact hszl)
              have hkpb : Keeps OB W1 (Wm.putObj lp ob) := (hkp.trans (Keeps.of_below hbm fun q hq => Nat.lt_of_lt_of_le (HOT.out q hq).1 hkp.1)).trans (keeps_put ob (fun e => by have := (HOT.out lp e).1; omega) holm)
              have hzb : (Wm.putObj lp ob).heap[z]? = some (.cells #[.int .i64 x.c.v, .int .i64 x.c.s, .bool x.c.dead] 29 (0, 0)) := by
                rw [hz]
                exact (World.putObj_heap_other (by omega)).trans hzm
              rw [← hz]
              obtain ⟨Wb, hWb⟩ : ∃ Wb, Wb = Wm.putObj lp ob := ⟨_, rfl⟩
              rw [← hWb] at hbgb hbwb hkpb hzb ⊢
              clear hWb hWm hbm hzm holm hlz hol hoc hob hlp hbg hbw hkp HBM HLP HI hz hszl
              have y0 : Wb.cell? ⟨z, 0, none⟩ = some (.int .i64 x.c.v) := by rw [cell_of_row _ _ 0 _ _ _ hzb]; rfl
              have y1 : Wb.cell? ⟨z, 1, none⟩ = some (.int .i64 x.c.s) := by rw [cell_of_row _ _ 1 _ _ _ hzb]; rfl
              have y2 : Wb.cell? ⟨z, 2, none⟩ = some (.bool x.c.dead) := by rw [cell_of_row _ _ 2 _ _ _ hzb]; rfl
              obtain ⟨hB, u, hu1, hu2⟩ := hbgb
              obtain ⟨A9, c9, rfl⟩ := own_form hu2
              obtain ⟨n9, hn9⟩ : ∃ n9, n9 = (R.take k).length := ⟨_, rfl⟩
              have hn9b : n9 ≤ 99999 := by
                have := HRB.out
                rw [hn9, List.length_take]
                omega
              have hu2' : Wb.ownsRow wd.heap.size 65 4 (.slice A9 n9 c9) n9 (rowV RI (R.take k)) := by rw [hn9]; exact hu2
              rw [← hn9] at hu1
              have y7 : Wb.cell? ⟨wd.heap.size + 1, 0, none⟩ = some (.slice A9 n9 c9) := by rw [cell_of_row _ _ 0 _ _ _ hu1]; rfl
              obtain ⟨Wc, hWc⟩ : ∃ Wc, Wc = Wb.alloc (.cells #[.int .i64 x.k, .int .i64 x.c.v, .int .i64 x.c.s, .bool x.c.dead] 65) := ⟨_, rfl⟩
              have hbc : Below Wb.heap.size Wb Wc := by rw [hWc]; exact (Below.refl _ _).alloc (Nat.le_refl _) _
              have hku : KeepsOthers Wb Wc := by rw [hWc]; exact KeepsOthers.alloc _ _
              have hrf : Rdv Wc (some ⟨Wb.heap.size, 0, none⟩) 1 4 (RI x) := by rw [hWc]; exact rdv_freshR Wb x _
              have hoc : Wc.ownsRow wd.heap.size 65 4 (.slice A9 n9 c9) n9 (rowV RI (R.take k)) := own_same hu2' fun q hq => by
                obtain ⟨_, e⟩ := own_at hu2' hq
                exact hbc.block q (Array.getElem?_eq_some_iff.1 e).1
              have hsc : wd.heap.size ≤ Wc.heap.size := Nat.le_trans hbwb.size hbc.size
              have hcc := (hbc.block _ (Array.getElem?_eq_some_iff.1 hu1).1).trans hu1
              obtain ⟨v', w', hrun, ho, hg, hq⟩ := append_block elemRI Wc wd.heap.size 27 (.slice A9 n9 c9) n9 (rowV RI (R.take k)) hoc (some ⟨Wb.heap.size, 0, none⟩) 1 1 (RI x) hrf (ri1 x) (fun h => by cases h) (by unfold maxLen; omega) (by omega) hsc
              obtain ⟨A8, c8, rfl⟩ := own_form ho
              have hp := BagI.put hB hcc hoc hn9.symm ho hg hq hsc
              have HRUN := Lib.hid hrun
              have HP := Lib.hid (show BagI wd.heap.size (w'.setCell ⟨wd.heap.size + 1, 0, none⟩ (.slice A8 (n9 + 1) c8)) (wd.heap.size + 1) (R.take (k + 1)) from by rw [HTK.out]; exact hp.1.1)
              have HPB := Lib.hid ((hbwb.trans (hbc.mono hbwb.size)).trans (hp.1.2.mono (Nat.le_refl _)))
              have HKO := Lib.hid ((hku.trans (KeepsOthers.of_grownBy hg fun j o e1 e2 => by
                obtain ⟨cs, e3⟩ := own_at hoc e1
                rw [e3] at e2
                cases e2
                rfl)).trans (KeepsOthers.setCell w' ⟨wd.heap.size + 1, 0, none⟩ (.slice A8 (n9 + 1) c8)))
              have HKP := Lib.hid (show Keeps OB Wb (w'.setCell ⟨wd.heap.size + 1, 0, none⟩ (.slice A8 (n9 + 1) c8)) from ⟨by rw [World.size_setCell]; exact Nat.le_trans hbc.size hg.size, fun q hq => by
                obtain ⟨hq1, cs, t, m, hq2, hq3, hq4⟩ := HOT.out q hq
                have hqb : Wb.heap[q]? = some (.cells cs t m) := (hkpb.2 q hq).trans hq2
                have hqc : Wc.heap[q]? = some (.cells cs t m) := (hbc.block _ (Array.getElem?_eq_some_iff.1 hqb).1).trans hqb
                rw [heap_ne _ _ _ _ (fun e => by rw [e, hcc] at hqc; cases hqc; exact hq4 rfl), hg.block q (Array.getElem?_eq_some_iff.1 hqc).1 (fun e => by
                  obtain ⟨cs2, e3⟩ := own_at hoc e.symm
                  rw [e3] at hqc
                  cases hqc
                  exact hq3 rfl)]
                exact hqc.trans hqb.symm⟩)
              have HKB := Lib.hid hkpb
              obtain ⟨z7, zf⟩ := hp.2
              have hb7n : b7 < wd.heap.size := (Array.getElem?_eq_some_iff.1 HXD.out).1
              have hb79 := (HPB.out.block b7 hb7n).trans HXD.out
              have hne7 : b7 ≠ wd.heap.size + 1 := by omega
              have z9 : w'.cell? ⟨b7, 0, none⟩ = some (.int .i64 stop) := (cell_of_row _ _ 0 _ _ _ ((heap_ne _ _ _ _ hne7).symm.trans hb79)).trans rfl
              have hne8 : wd.heap.size + 1 ≠ b7 := Ne.symm hne7
              have HN9 : Hid (n9 = k) := Lib.hid (by rw [hn9, List.length_take]; have := HKL.out; omega)
              clear hb79
              have HWC := Lib.hid hWc
              clear hp hrun ho hg hq hcc hsc hoc hrf hku hbc hWc hu1 hu2 hu2' hn9 hn9b hB hbwb hkpb hzb hk
              by_cases hst : (n9 : Int) + 1 = stop
              · have d1 : ((n9 : Int) + 1 == stop) = true := by rw [hst]; simp
                have HST := Lib.hid hst
                clear hst
                gi_wp2_with (first | (gi_at_builtin; rw [← HWC.out]; refine wpListIn_append rfl (.tmp 69) (.tmp 73) 27 27 rfl (.slice A9 n9 c9) (.slice (some ⟨Wb.heap.size, 0, none⟩) 1 1) rfl rfl HRUN.out ?_) | (rw [Oper.semAt_eq _ _ _ (fun c h => by cases h)]; go_simp))
                exact ⟨HKO.out, rfl, HP.out, HPB.out, by have h1 := HST.out; have h2 := HN9.out; omega⟩
              · have d1 : ((n9 : Int) + 1 == stop) = false := by rw [beq_eq_false_iff_ne]; exact hst
                have HST := Lib.hid hst
                clear hst
                gi_wp2_with (first | (gi_at_builtin; rw [← HWC.out]; refine wpListIn_append rfl (.tmp 69) (.tmp 73) 27 27 rfl (.slice A9 n9 c9) (.slice (some ⟨Wb.heap.size, 0, none⟩) 1 1) rfl rfl HRUN.out ?_) | (rw [Oper.semAt_eq _ _ _ (fun c h => by cases h)]; go_simp))
                exact ⟨HKO.out, HKP.out, HP.out, HPB.out, HKB.out.trans HKP.out, fun i h1 h2 => by
                  rcases Nat.lt_or_ge k i with e | e
                  · have h3 := HST.out
                    have h4 := HN9.out
                    omega
                  · exact HNO.out i h1 e⟩
            case done =>
              intro D W hi hD hK
              obtain ⟨⟨hB, u, hu1, hu2⟩, hbw, _, hno⟩ := hi
              rw [List.take_length] at hu2
              obtain ⟨A6, c6, rfl⟩ := own_form hu2
              obtain ⟨np, hnp⟩ : ∃ np, np = R.length := ⟨_, rfl⟩
              have HNP : Hid (np ≤ rl ∧ R.take np = R ∧ ((stop ≤ 0 ∧ np = rl) ∨ (0 < stop ∧ (np : Int) < stop ∧ np = rl))) := Lib.hid (by
                have h1 := HRL.out
                refine ⟨by omega, by rw [hnp, List.take_length], ?_⟩
                rcases Int.lt_or_le 0 stop with e | e
                · refine .inr ⟨e, ?_, by omega⟩
                  rcases Int.lt_or_le (np : Int) stop with e2 | e2
                  · exact e2
                  · exact absurd (by omega : ((stop.toNat : Nat) : Int) = stop) (hno stop.toNat (by omega) (by omega))
                · exact .inl ⟨e, by omega⟩)
              rw [← hnp] at hu1
              have HV : Hid (Rio W wd.heap.size (.slice A6 np c6) R) := Lib.hid (by rw [hnp]; exact hu2)
              have HWD := Lib.hid hbw
              have HDD := Lib.hid (And.intro hD hK)
              have y16 : W.cell? ⟨wd.heap.size + 1, 0, none⟩ = some (.slice A6 np c6) := (cell_of_row _ _ 0 _ _ _ hu1).trans rfl
              have y7 : W.cell? ⟨b7, 0, none⟩ = some (.int .i64 stop) := (cell_of_row _ _ 0 _ _ _ ((hbw.block _ (Array.getElem?_eq_some_iff.1 HXD.out).1).trans HXD.out)).trans rfl
              have HTW := Lib.hid (HU.out.tn.later hbw)
              have HQW := Lib.hid (HQD.out.below hbw)
              clear hu1 hu2 hbw hB hno hD hK hnp
              clear HBG HBW HU HGo HQ4 HG HB4 HB5 hH HOT
              go_wp2_with fail
              go_loopw [19, 20, 81, 82, 83, 84, 85, 86, 87, 88, 89, 90, 91, 92, 93, 94, 95, 96, 97, 98, 99, 100, 101, 102, 103, 104, 105, 106, 107, 108, 109, 110, 111] (fun _ _ ix _ _ _ _ _ _ _ _ _ _ _ _ _ _ _ _ _ _ _ _ _ _ _ _ _ _ _ _ _ _ wr => ∃ i : Nat, ix = .int .i64 (i : Int) ∧ i ≤ rl ∧ Below W.heap.size W wr) (fun _ _ ix _ _ _ _ _ _ _ _ _ _ _ _ _ _ _ _ _ _ _ _ _ _ _ _ _ _ _ _ _ _ _ => rl - (intOf ix).toNat)
              case atStart => exact ⟨0, rfl, Nat.zero_le _, Below.refl _ _⟩
              case round =>
                obtain ⟨i, rfl, hle, hbx⟩ := hrel
                by_cases hlt : i < rl
                · have hil : i < R.length := by rw [← HRL.out]; exact hlt
                  obtain ⟨bq, oq, rfl, hcl⟩ := Ris.cell (RowAt.below (Rio.ris HQW.out rfl) hbx) (by omega)
                  obtain ⟨x0, x1, x2, x3⟩ := hcl i hil
                  obtain ⟨x, hx⟩ : ∃ x, x = R[i] := ⟨_, rfl⟩
                  have hxm := HMB.out R[i] (List.getElem_mem hil)
                  rw [← hx] at x0 x1 x2 x3 hxm
                  have hrl3 : rl ≤ 300 := by have h1 := HRB.out; have h2 := HRL.out; omega
                  have d1 : decide (x.k < lo) = false := decide_eq_false (by omega)
                  have d2 : decide (hi < x.k) = false := decide_eq_false (by omega)
                  have HXE := Lib.hid hx
                  have HCL := Lib.hid hcl
                  clear y16 y7 hle hx hcl
                  go_upto_region 27 with fail
                  obtain ⟨W2, hW2⟩ : ∃ W2, W2 = wr.alloc (.cells #[.int .i64 x.k, .int .i64 x.c.v, .int .i64 x.c.s, .bool x.c.dead] 65) := ⟨_, rfl⟩
                  obtain ⟨bo, hbo⟩ : ∃ bo, bo = wr.heap.size := ⟨_, rfl⟩
                  have hb2 : Below wr.heap.size wr W2 := by rw [hW2]; exact (Below.refl _ _).alloc (Nat.le_refl _) _
                  have hy2 : W2.heap[bo]? = some (.cells #[.int .i64 x.k, .int .i64 x.c.v, .int .i64 x.c.s, .bool x.c.dead] 65 (0, 0)) := by rw [hW2, hbo]; exact heap_alloc_new wr _
                  rw [← hW2, ← hbo]
                  have y0 : W2.cell? ⟨bo, 0, none⟩ = some (.int .i64 x.k) := by rw [cell_of_row _ _ 0 _ _ _ hy2]; rfl
                  have HB2 := Lib.hid (hbx.trans (hb2.mono hbx.size))
                  rcases Nat.eq_zero_or_pos i with h0 | h0
                  · subst h0
                    have d3 : decide ((0 : Int) < ((0 : Nat) : Int)) = false := by decide
                    have d4 : decide ((0 : Int) < (0 : Int)) = false := by decide
                    clear hxm hW2 hbo hb2 hy2 hbx x0 x1 x2 x3
                    go_quiet (fail)
                    go_wp2_with fail
                    go_roundw
                    case rel => exact ⟨1, by go_num, by omega, below_drewQ HB2.out⟩
                    case measure => simp [intOf]; omega
                  · have HI0 := Lib.hid h0
                    obtain ⟨j, hj⟩ : ∃ j, i = j + 1 := ⟨i - 1, by omega⟩
                    have hjl : j < R.length := by omega
                    obtain ⟨v0, _⟩ := HCL.out j hjl
                    have v1 := (hb2.cell (World.block_lt_of_cell? _ _ v0)).trans v0
                    obtain ⟨xj, hxj⟩ : ∃ xj, xj = R[j] := ⟨_, rfl⟩
                    have hup : xj.k < x.k := by rw [HXE.out, hxj]; exact List.pairwise_iff_getElem.1 HUP.out j i hjl hil (by omega)
                    rw [← hxj] at v1
                    have d3 : decide ((0 : Int) < (i : Int)) = true := decide_eq_true (by omega)
                    have d4 : decide (x.k ≤ xj.k) = false := decide_eq_false (by omega)
                    have v2 : W2.cell? ⟨bq, oq + (i - 1) * 4, none⟩ = some (.int .i64 xj.k) := by rw [show i - 1 = j by omega]; exact v1
                    have v3 : W2.cell? ⟨bq, oq + ((i : Int) - 1).toNat * 4, none⟩ = some (.int .i64 xj.k) := by rw [show ((i : Int) - 1).toNat = j by omega]; exact v1
                    have c0 : (1 : Int) ≤ (i : Int) := by omega
                    have c1 : (0 : Int) ≤ (j : Int) := by omega
                    have c3 : (0 : Int) ≤ (i : Int) - 1 := by omega
                    have c5 : (i : Int) - 1 < (rl : Int) := by omega
                    have c6 : (j : Int).toNat = j := by omega
                    have c7 : ((i : Int) - 1).toNat = j := by omega
                    have c2 : (j : Int) < (rl : Int) := by omega
                    have HJ := Lib.hid hj
                    have s2 : (i : Int) - 1 = (j : Int) := by omega
                    have s1 : IntKind.i64.wrap ((i : Int) - 1) = (j : Int) := by rw [s2, IntKind.wrap_i64]; omega
                    clear hxm hW2 hbo hb2 hy2 hbx x0 x1 x2 x3 v0 hxj hup hj h0

                    have HS1 := Lib.hid s1
                    clear s1 s2 v2 v3 c0
                    refine wp_region_noPanic ?_
                    refine wp_region_abs 24 135 [.is (.pointer (some ⟨bo, 0, none⟩)), .is (.int .i64 x.k), .is (.int .i64 lo), .is (.bool false), .is (.bool false), .is (.pointer (some ⟨bo, 0, none⟩)), .is (.int .i64 x.k), .is (.int .i64 hi), .is (.bool false), .is (.bool false), .is (.bool false), .is (.int .i64 (i : Int)), .is (.bool true), .is (.bool true), .is (.slice (some ⟨bq, oq, none⟩) rl c4), .is (.int .i64 (i : Int)), .is (.int .i64 (j : Int)), .is (.pointer (some ⟨bq, oq + j * 4, none⟩)), .is (.pointer (some ⟨bq, oq + j * 4, none⟩)), .is (.int .i64 xj.k), .is (.pointer (some ⟨bo, 0, none⟩)), .is (.int .i64 x.k), .is (.bool false), .is (.bool false)]
                      [86, 87, 88, 89, 90, 91, 92, 93, 94, 95, 96, 97, 98, 99, 100, 101, 102, 103, 104, 105, 106, 107, 108, 109]
                      [[], [0], [], [1, 2], [3], [4], [5, 4], [4], [6, 7, 4], [4, 8], [9, 4], [10], [11, 10], [12, 10], [13], [13], [15, 13], [14, 16, 13], [17, 13], [18, 13], [13], [20, 13], [19, 21, 13], [13, 22, 10]] (by kernel_rfl) (by rfl) rfl rfl (by kernel_rfl) (fun _ _ _ _ h => h.elim) ?_ ?_
                    · refine ⟨?_, ?_, ?_, ?_, ?_, ?_, ?_, ?_, ?_, ?_, ?_, ?_, ?_, ?_, ?_, ?_, ?_, ?_, ?_, ?_, ?_, ?_, ?_, ?_, trivial⟩
                      · intro W3 hw K hK; go_simp; exact hK _ _ rfl (Below.refl _ _)
                      · intro W3 hw K hK
                        have q0 := (((Below.refl _ W2).drew.trans hw).cell (World.block_lt_of_cell? _ _ y0)).trans y0
                        go_simp; exact hK _ _ rfl (Below.refl _ _)
                      · intro W3 hw K hK; go_simp; exact hK _ _ rfl (Below.refl _ _)
                      · intro W3 hw K hK; go_simp; exact hK _ _ rfl (Below.refl _ _)
                      · intro W3 hw K hK; go_simp; exact hK _ _ rfl (Below.refl _ _)
                      · intro W3 hw K hK; go_simp; exact hK _ _ rfl (Below.refl _ _)
                      · intro W3 hw K hK
                        have q0 := (((Below.refl _ W2).drew.trans hw).cell (World.block_lt_of_cell? _ _ y0)).trans y0
                        go_simp; exact hK _ _ rfl (Below.refl _ _)
                      · intro W3 hw K hK; go_simp; exact hK _ _ rfl (Below.refl _ _)
                      · intro W3 hw K hK; go_simp; exact hK _ _ rfl (Below.refl _ _)
                      · intro W3 hw K hK; go_simp; exact hK _ _ rfl (Below.refl _ _)
                      · intro W3 hw K hK; go_simp; exact hK _ _ rfl (Below.refl _ _)
                      · intro W3 hw K hK; go_simp; exact hK _ _ rfl (Below.refl _ _)
                      · intro W3 hw K hK
                        have q0 : 0 < i := HI0.out
                        go_simp; exact hK _ _ rfl (Below.refl _ _)
                      · intro W3 hw K hK; go_simp; exact hK _ _ rfl (Below.refl _ _)
                      · intro W3 hw K hK; go_simp; exact hK _ _ rfl (Below.refl _ _)
                      · intro W3 hw K hK; go_simp; exact hK _ _ rfl (Below.refl _ _)
                      · intro W3 hw K hK
                        have s1 : IntKind.i64.wrap ((i : Int) - 1) = (j : Int) := HS1.out
                        go_simp; exact hK _ _ rfl (Below.refl _ _)
                      · intro W3 hw K hK; go_simp; exact hK _ _ rfl (Below.refl _ _)
                      · intro W3 hw K hK; go_simp; exact hK _ _ rfl (Below.refl _ _)
                      · intro W3 hw K hK
                        have q0 := (((Below.refl _ W2).drew.trans hw).cell (World.block_lt_of_cell? _ _ v1)).trans v1
                        go_simp; exact hK _ _ rfl (Below.refl _ _)
                      · intro W3 hw K hK; go_simp; exact hK _ _ rfl (Below.refl _ _)
                      · intro W3 hw K hK
                        have q0 := (((Below.refl _ W2).drew.trans hw).cell (World.block_lt_of_cell? _ _ y0)).trans y0
                        go_simp; exact hK _ _ rfl (Below.refl _ _)
                      · intro W3 hw K hK; go_simp; exact hK _ _ rfl (Below.refl _ _)
                      · intro W3 hw K hK; go_simp; exact hK _ _ rfl (Below.refl _ _)
                    · intro W3 hw3
                      have HB3 := Lib.hid (HB2.out.trans (((Below.refl _ W2).drew.trans hw3).mono HB2.out.size))
                      clear hw3
                      simp only [Behind, List.drop, Act.put, List.setIfInBounds_toArray, List.set_cons_zero, List.set_cons_succ]
                      go_wp2_with fail
                      refine NoPanic.normal ?_
                      go_wp2_with fail
                      go_roundw
                      case rel => exact ⟨i + 1, by go_num, by omega, HB3.out⟩
                      case measure => simp [intOf]; omega
                · obtain rfl : i = rl := by omega
                  have HBX := Lib.hid hbx
                  have HVX := Lib.hid (HV.out.below hbx)
                  have HTX := Lib.hid (HTW.out.later hbx)
                  have HQX := Lib.hid (HQW.out.below hbx)
                  have z16 := (hbx.cell (World.block_lt_of_cell? _ _ y16)).trans y16
                  have z7 := (hbx.cell (World.block_lt_of_cell? _ _ y7)).trans y7
                  obtain ⟨h8, htk, hcs⟩ := HNP.out
                  clear y16 y7 hlt hle hbx
                  rcases hcs with ⟨hs0, hnr⟩ | ⟨hs0, hs1, hnr⟩
                  · subst hnr
                    have d1 : decide ((0 : Int) < stop) = false := decide_eq_false (by omega)
                    have HTK := Lib.hid htk
                    clear h8 htk hs0
                    go_upto_region 33 with fail
                    have hcap : np ≤ c4 := by
                      obtain ⟨_, _, e, _, _, hle⟩ := rdv_own HQX.out
                      injection e with _ _ e
                      rw [e]; rw [HRL.out]; exact hle
                    have HSM := Lib.hid (fun W2 (hb : Below wr.heap.size wr W2) => same_any (c := c6) (c2 := c4) (Rio.ris (HVX.out.below hb) HRL.out) (Rio.ris (HQX.out.below hb) rfl) (by have := HRB.out; omega))
                    rw [← HRL.out] at HSM
                    clear z7
                    refine wp_region_noPanic ?_
                    refine wp_region_abs 16 135 [.is (.pointer (some ⟨tb, 0, none⟩)), .is (.int .i64 0), .is (.bool true), .is (.bool true), .is (.slice A6 np c6), .is (.int .i64 (np : Int)), .is (.int .i64 (np : Int)), .is (.bool true), .is (.bool true), .is (.bool true), .is (.slice A6 np c6), .is (.slice A4 np c4), .is (.int .i64 (np : Int)), .is (.slice A4 np c4), .is (.bool true), .is (.bool true)]
                      [119, 120, 121, 122, 123, 124, 125, 126, 127, 128, 129, 130, 131, 132, 133, 134]
                      [[],[0],[1],[2,1],[3],[4,3],[3],[5,6,3],[3,7],[8,3],[9],[9],[9],[11,12,9],[10,13,9],[9,14]] (by kernel_rfl) (by rfl) rfl rfl (by kernel_rfl) (fun _ _ _ _ h => h.elim) ?_ ?_
                    · refine ⟨?_, ?_, ?_, ?_, ?_, ?_, ?_, ?_, ?_, ?_, ?_, ?_, ?_, ?_, ?_, ?_, trivial⟩
                      · intro W2 hw K hK; go_simp; exact hK _ _ rfl (Below.refl _ _)
                      · intro W2 hw K hK
                        go_simp
                        refine Calls.mono (tn_len (HTX.out.later ((Below.refl _ wr).drew.trans hw))) ?_
                        rintro e9 w9 ⟨rfl, rfl⟩
                        exact hK _ _ rfl (Below.refl _ _)
                      · intro W2 hw K hK; go_simp; exact hK _ _ rfl (Below.refl _ _)
                      · intro W2 hw K hK; go_simp; exact hK _ _ rfl (Below.refl _ _)
                      · intro W2 hw K hK
                        have c0 := (((Below.refl _ wr).drew.trans hw).cell (World.block_lt_of_cell? _ _ z16)).trans z16
                        go_simp; exact hK _ _ rfl (Below.refl _ _)
                      · intro W2 hw K hK; go_simp; exact hK _ _ rfl (Below.refl _ _)
                      · intro W2 hw K hK; go_simp; exact hK _ _ rfl (Below.refl _ _)
                      · intro W2 hw K hK; go_simp; exact hK _ _ rfl (Below.refl _ _)
                      · intro W2 hw K hK; go_simp; exact hK _ _ rfl (Below.refl _ _)
                      · intro W2 hw K hK; go_simp; exact hK _ _ rfl (Below.refl _ _)
                      · intro W2 hw K hK
                        have c0 := (((Below.refl _ wr).drew.trans hw).cell (World.block_lt_of_cell? _ _ z16)).trans z16
                        go_simp; exact hK _ _ rfl (Below.refl _ _)
                      · intro W2 hw K hK; go_simp; exact hK _ _ rfl (Below.refl _ _)
                      · intro W2 hw K hK; go_simp; exact hK _ _ rfl (Below.refl _ _)
                      · intro W2 hw K hK; go_simp; exact hK _ _ rfl (Below.refl _ _)
                      · intro W2 hw K hK
                        go_simp
                        refine Calls.mono (HSM.out W2 ((Below.refl _ wr).drew.trans hw)) ?_
                        rintro e9 w9 ⟨rfl, hb9⟩
                        exact hK _ _ rfl hb9
                      · intro W2 hw K hK; go_simp; exact hK _ _ rfl (Below.refl _ _)
                    · intro W2 hw2
                      have hbq : Below wd.heap.size wd W2 := (HWD.out.trans (HBX.out.mono HWD.out.size)).trans (((Below.refl _ wr).drew.trans hw2).mono (HWD.out.trans (HBX.out.mono HWD.out.size)).size)
                      have hbe : Below w.heap.size w W2 := HW8.out.trans (hbq.mono HW8.out.size)
                      have hdd : W2.heap[D]? = some (.deferred (some [])) := ((((HBX.out.trans (((Below.refl _ wr).drew.trans hw2).mono HBX.out.size))).block D (Array.getElem?_eq_some_iff.1 HDD.out.2).1)).trans HDD.out.2
                      have hdl : w.heap.size ≤ D := by have h1 := HDD.out.1; have h2 := HDS.out; have h3 := HW8.out.size; omega
                      have HE := Lib.hid (And.intro hbe (And.intro hdd hdl))
                      clear hbq hbe hdd hdl hw2
                      simp only [Behind, List.drop, Act.put, List.setIfInBounds_toArray, List.set_cons_zero, List.set_cons_succ]
                      go_wp2_with fail
                      refine NoPanic.normal ?_
                      go_wp2_with fail
                      refine ⟨by simp, .inl ⟨D, _, rfl, run_takeDeferred HE.out.2.1, ?_⟩⟩
                      exact ⟨.bool true, by simp [results, Try.results22, go_sem], rfl, HE.out.1.grown (grownBy_putObj' W2 D (.deferred none)) HE.out.1.size (fun k e => by cases e; exact HE.out.2.2)⟩
                  · subst hnr
                    have d1 : decide ((0 : Int) < stop) = true := decide_eq_true hs0
                    have d2 : decide (stop < (np : Int)) = false := decide_eq_false (by omega)
                    have d3 : decide ((np : Int) < stop) = true := decide_eq_true hs1
                    have d5 : min (np : Int) stop = (np : Int) := by omega
                    have HTK := Lib.hid htk
                    clear h8 htk
                    go_upto_region 33 with fail
                    have hcap : np ≤ c4 := by
                      obtain ⟨_, _, e, _, _, hle⟩ := rdv_own HQX.out
                      injection e with _ _ e
                      rw [e]; rw [HRL.out]; exact hle
                    have HSM := Lib.hid (fun W2 (hb : Below wr.heap.size wr W2) => same_any (c := c6) (c2 := c4) (Rio.ris (HVX.out.below hb) HRL.out) (Rio.ris (HQX.out.below hb) rfl) (by have := HRB.out; omega))
                    rw [← HRL.out] at HSM
                    clear z7
                    refine wp_region_noPanic ?_
                    refine wp_region_abs 16 135 [.is (.pointer (some ⟨tb, 0, none⟩)), .is (.int .i64 0), .is (.bool true), .is (.bool true), .is (.slice A6 np c6), .is (.int .i64 (np : Int)), .is (.int .i64 (np : Int)), .is (.bool true), .is (.bool true), .is (.bool true), .is (.slice A6 np c6), .is (.slice A4 np c4), .is (.int .i64 (np : Int)), .is (.slice A4 np c4), .is (.bool true), .is (.bool true)]
                      [119, 120, 121, 122, 123, 124, 125, 126, 127, 128, 129, 130, 131, 132, 133, 134]
                      [[],[0],[1],[2,1],[3],[4,3],[3],[5,6,3],[3,7],[8,3],[9],[9],[9],[11,12,9],[10,13,9],[9,14]] (by kernel_rfl) (by rfl) rfl rfl (by kernel_rfl) (fun _ _ _ _ h => h.elim) ?_ ?_
                    · refine ⟨?_, ?_, ?_, ?_, ?_, ?_, ?_, ?_, ?_, ?_, ?_, ?_, ?_, ?_, ?_, ?_, trivial⟩
                      · intro W2 hw K hK; go_simp; exact hK _ _ rfl (Below.refl _ _)
                      · intro W2 hw K hK
                        go_simp
                        refine Calls.mono (tn_len (HTX.out.later ((Below.refl _ wr).drew.trans hw))) ?_
                        rintro e9 w9 ⟨rfl, rfl⟩
                        exact hK _ _ rfl (Below.refl _ _)
                      · intro W2 hw K hK; go_simp; exact hK _ _ rfl (Below.refl _ _)
                      · intro W2 hw K hK; go_simp; exact hK _ _ rfl (Below.refl _ _)
                      · intro W2 hw K hK
                        have c0 := (((Below.refl _ wr).drew.trans hw).cell (World.block_lt_of_cell? _ _ z16)).trans z16
                        go_simp; exact hK _ _ rfl (Below.refl _ _)
                      · intro W2 hw K hK; go_simp; exact hK _ _ rfl (Below.refl _ _)
                      · intro W2 hw K hK; go_simp; exact hK _ _ rfl (Below.refl _ _)
                      · intro W2 hw K hK; go_simp; exact hK _ _ rfl (Below.refl _ _)
                      · intro W2 hw K hK; go_simp; exact hK _ _ rfl (Below.refl _ _)
                      · intro W2 hw K hK; go_simp; exact hK _ _ rfl (Below.refl _ _)
                      · intro W2 hw K hK
                        have c0 := (((Below.refl _ wr).drew.trans hw).cell (World.block_lt_of_cell? _ _ z16)).trans z16
                        go_simp; exact hK _ _ rfl (Below.refl _ _)
                      · intro W2 hw K hK; go_simp; exact hK _ _ rfl (Below.refl _ _)
                      · intro W2 hw K hK; go_simp; exact hK _ _ rfl (Below.refl _ _)
                      · intro W2 hw K hK; go_simp; exact hK _ _ rfl (Below.refl _ _)
                      · intro W2 hw K hK
                        go_simp
                        refine Calls.mono (HSM.out W2 ((Below.refl _ wr).drew.trans hw)) ?_
                        rintro e9 w9 ⟨rfl, hb9⟩
                        exact hK _ _ rfl hb9
                      · intro W2 hw K hK; go_simp; exact hK _ _ rfl (Below.refl _ _)
                    · intro W2 hw2
                      have hbq : Below wd.heap.size wd W2 := (HWD.out.trans (HBX.out.mono HWD.out.size)).trans (((Below.refl _ wr).drew.trans hw2).mono (HWD.out.trans (HBX.out.mono HWD.out.size)).size)
                      have hbe : Below w.heap.size w W2 := HW8.out.trans (hbq.mono HW8.out.size)
                      have hdd : W2.heap[D]? = some (.deferred (some [])) := ((((HBX.out.trans (((Below.refl _ wr).drew.trans hw2).mono HBX.out.size))).block D (Array.getElem?_eq_some_iff.1 HDD.out.2).1)).trans HDD.out.2
                      have hdl : w.heap.size ≤ D := by have h1 := HDD.out.1; have h2 := HDS.out; have h3 := HW8.out.size; omega
                      have HE := Lib.hid (And.intro hbe (And.intro hdd hdl))
                      clear hbq hbe hdd hdl hw2
                      simp only [Behind, List.drop, Act.put, List.setIfInBounds_toArray, List.set_cons_zero, List.set_cons_succ]
                      go_wp2_with fail
                      refine NoPanic.normal ?_
                      go_wp2_with fail
                      refine ⟨by simp, .inl ⟨D, _, rfl, run_takeDeferred HE.out.2.1, ?_⟩⟩
                      exact ⟨.bool true, by simp [results, Try.results22, go_sem], rfl, HE.out.1.grown (grownBy_putObj' W2 D (.deferred none)) HE.out.1.size (fun k e => by cases e; exact HE.out.2.2)⟩
            case stop =>
              intro D k c9 W hk hi hD hK
              obtain ⟨rfl, ⟨hB, u, hu1, hu2⟩, hbw, hst⟩ := hi
              obtain ⟨A6, c6, rfl⟩ := own_form hu2
              obtain ⟨np, hnp⟩ : ∃ np, np = (R.take (k + 1)).length := ⟨_, rfl⟩
              have hnk : np = k + 1 := by rw [hnp, List.length_take]; omega
              have HNP : Hid (np ≤ rl ∧ 0 < stop ∧ min (rl : Int) stop = (np : Int)) := Lib.hid (by
                have h1 := HRL.out
                refine ⟨by omega, by omega, by omega⟩)
              rw [← hnp] at hu1
              rw [← hnk] at hu2
              have HNT : Hid ((R.take np).length = np) := Lib.hid (by rw [List.length_take]; omega)
              have HV : Hid (Rio W wd.heap.size (.slice A6 (R.take np).length c6) (R.take np)) := Lib.hid hu2
              have HWD := Lib.hid hbw
              have HDD := Lib.hid (And.intro hD hK)
              have y16 : W.cell? ⟨wd.heap.size + 1, 0, none⟩ = some (.slice A6 np c6) := (cell_of_row _ _ 0 _ _ _ hu1).trans rfl
              have y7 : W.cell? ⟨b7, 0, none⟩ = some (.int .i64 stop) := (cell_of_row _ _ 0 _ _ _ ((hbw.block _ (Array.getElem?_eq_some_iff.1 HXD.out).1).trans HXD.out)).trans rfl
              have HTW := Lib.hid (HU.out.tn.later hbw)
              have HQW := Lib.hid (HQD.out.below hbw)
              clear hu1 hu2 hbw hB hst hD hK hnp hnk hk
              refine wpIn_wide.2 ?_
              clear HBG HBW HU HGo HQ4 HG HB4 HB5 hH HOT
              go_wp2_with fail
              go_loopw [19, 20, 81, 82, 83, 84, 85, 86, 87, 88, 89, 90, 91, 92, 93, 94, 95, 96, 97, 98, 99, 100, 101, 102, 103, 104, 105, 106, 107, 108, 109, 110, 111] (fun _ _ ix _ _ _ _ _ _ _ _ _ _ _ _ _ _ _ _ _ _ _ _ _ _ _ _ _ _ _ _ _ _ wr => ∃ i : Nat, ix = .int .i64 (i : Int) ∧ i ≤ rl ∧ Below W.heap.size W wr) (fun _ _ ix _ _ _ _ _ _ _ _ _ _ _ _ _ _ _ _ _ _ _ _ _ _ _ _ _ _ _ _ _ _ _ => rl - (intOf ix).toNat)
              case atStart => exact ⟨0, rfl, Nat.zero_le _, Below.refl _ _⟩
              case round =>
                obtain ⟨i, rfl, hle, hbx⟩ := hrel
                by_cases hlt : i < rl
                · have hil : i < R.length := by rw [← HRL.out]; exact hlt
                  obtain ⟨bq, oq, rfl, hcl⟩ := Ris.cell (RowAt.below (Rio.ris HQW.out rfl) hbx) (by omega)
                  obtain ⟨x0, x1, x2, x3⟩ := hcl i hil
                  obtain ⟨x, hx⟩ : ∃ x, x = R[i] := ⟨_, rfl⟩
                  have hxm := HMB.out R[i] (List.getElem_mem hil)
                  rw [← hx] at x0 x1 x2 x3 hxm
                  have hrl3 : rl ≤ 300 := by have h1 := HRB.out; have h2 := HRL.out; omega
                  have d1 : decide (x.k < lo) = false := decide_eq_false (by omega)
                  have d2 : decide (hi < x.k) = false := decide_eq_false (by omega)
                  have HXE := Lib.hid hx
                  have HCL := Lib.hid hcl
                  clear y16 y7 hle hx hcl
                  go_upto_region 27 with fail
                  obtain ⟨W2, hW2⟩ : ∃ W2, W2 = wr.alloc (.cells #[.int .i64 x.k, .int .i64 x.c.v, .int .i64 x.c.s, .bool x.c.dead] 65) := ⟨_, rfl⟩
                  obtain ⟨bo, hbo⟩ : ∃ bo, bo = wr.heap.size := ⟨_, rfl⟩
                  have hb2 : Below wr.heap.size wr W2 := by rw [hW2]; exact (Below.refl _ _).alloc (Nat.le_refl _) _
                  have hy2 : W2.heap[bo]? = some (.cells #[.int .i64 x.k, .int .i64 x.c.v, .int .i64 x.c.s, .bool x.c.dead] 65 (0, 0)) := by rw [hW2, hbo]; exact heap_alloc_new wr _
                  rw [← hW2, ← hbo]
                  have y0 : W2.cell? ⟨bo, 0, none⟩ = some (.int .i64 x.k) := by rw [cell_of_row _ _ 0 _ _ _ hy2]; rfl
                  have HB2 := Lib.hid (hbx.trans (hb2.mono hbx.size))
                  rcases Nat.eq_zero_or_pos i with h0 | h0
                  · subst h0
                    have d3 : decide ((0 : Int) < ((0 : Nat) : Int)) = false := by decide
                    have d4 : decide ((0 : Int) < (0 : Int)) = false := by decide
                    clear hxm hW2 hbo hb2 hy2 hbx x0 x1 x2 x3
                    go_quiet (fail)
                    go_wp2_with fail
                    go_roundw
                    case rel => exact ⟨1, by go_num, by omega, below_drewQ HB2.out⟩
                    case measure => simp [intOf]; omega
                  · have HI0 := Lib.hid h0
                    obtain ⟨j, hj⟩ : ∃ j, i = j + 1 := ⟨i - 1, by omega⟩
                    have hjl : j < R.length := by omega
                    obtain ⟨v0, _⟩ := HCL.out j hjl
                    have v1 := (hb2.cell (World.block_lt_of_cell? _ _ v0)).trans v0
                    obtain ⟨xj, hxj⟩ : ∃ xj, xj = R[j] := ⟨_, rfl⟩
                    have hup : xj.k < x.k := by rw [HXE.out, hxj]; exact List.pairwise_iff_getElem.1 HUP.out j i hjl hil (by omega)
                    rw [← hxj] at v1
                    have d3 : decide ((0 : Int) < (i : Int)) = true := decide_eq_true (by omega)
                    have d4 : decide (x.k ≤ xj.k) = false := decide_eq_false (by omega)
                    have v2 : W2.cell? ⟨bq, oq + (i - 1) * 4, none⟩ = some (.int .i64 xj.k) := by rw [show i - 1 = j by omega]; exact v1
                    have v3 : W2.cell? ⟨bq, oq + ((i : Int) - 1).toNat * 4, none⟩ = some (.int .i64 xj.k) := by rw [show ((i : Int) - 1).toNat = j by omega]; exact v1
                    have c0 : (1 : Int) ≤ (i : Int) := by omega
                    have c1 : (0 : Int) ≤ (j : Int) := by omega
                    have c3 : (0 : Int) ≤ (i : Int) - 1 := by omega
                    have c5 : (i : Int) - 1 < (rl : Int) := by omega
                    have c6 : (j : Int).toNat = j := by omega
                    have c7 : ((i : Int) - 1).toNat = j := by omega
                    have c2 : (j : Int) < (rl : Int) := by omega
                    have HJ := Lib.hid hj
                    have s2 : (i : Int) - 1 = (j : Int) := by omega
                    have s1 : IntKind.i64.wrap ((i : Int) - 1) = (j : Int) := by rw [s2, IntKind.wrap_i64]; omega
                    clear hxm hW2 hbo hb2 hy2 hbx x0 x1 x2 x3 v0 hxj hup hj h0

                    have HS1 := Lib.hid s1
                    clear s1 s2 v2 v3 c0
                    refine wp_region_noPanic ?_
                    refine wp_region_abs 24 135 [.is (.pointer (some ⟨bo, 0, none⟩)), .is (.int .i64 x.k), .is (.int .i64 lo), .is (.bool false), .is (.bool false), .is (.pointer (some ⟨bo, 0, none⟩)), .is (.int .i64 x.k), .is (.int .i64 hi), .is (.bool false), .is (.bool false), .is (.bool false), .is (.int .i64 (i : Int)), .is (.bool true), .is (.bool true), .is (.slice (some ⟨bq, oq, none⟩) rl c4), .is (.int .i64 (i : Int)), .is (.int .i64 (j : Int)), .is (.pointer (some ⟨bq, oq + j * 4, none⟩)), .is (.pointer (some ⟨bq, oq + j * 4, none⟩)), .is (.int .i64 xj.k), .is (.pointer (some ⟨bo, 0, none⟩)), .is (.int .i64 x.k), .is (.bool false), .is (.bool false)]
                      [86, 87, 88, 89, 90, 91, 92, 93, 94, 95, 96, 97, 98, 99, 100, 101, 102, 103, 104, 105, 106, 107, 108, 109]
                      [[], [0], [], [1, 2], [3], [4], [5, 4], [4], [6, 7, 4], [4, 8], [9, 4], [10], [11, 10], [12, 10], [13], [13], [15, 13], [14, 16, 13], [17, 13], [18, 13], [13], [20, 13], [19, 21, 13], [13, 22, 10]] (by kernel_rfl) (by rfl) rfl rfl (by kernel_rfl) (fun _ _ _ _ h => h.elim) ?_ ?_
                    · refine ⟨?_, ?_, ?_, ?_, ?_, ?_, ?_, ?_, ?_, ?_, ?_, ?_, ?_, ?_, ?_, ?_, ?_, ?_, ?_, ?_, ?_, ?_, ?_, ?_, trivial⟩
                      · intro W3 hw K hK; go_simp; exact hK _ _ rfl (Below.refl _ _)
                      · intro W3 hw K hK
                        have q0 := (((Below.refl _ W2).drew.trans hw).cell (World.block_lt_of_cell? _ _ y0)).trans y0
                        go_simp; exact hK _ _ rfl (Below.refl _ _)
                      · intro W3 hw K hK; go_simp; exact hK _ _ rfl (Below.refl _ _)
                      · intro W3 hw K hK; go_simp; exact hK _ _ rfl (Below.refl _ _)
                      · intro W3 hw K hK; go_simp; exact hK _ _ rfl (Below.refl _ _)
                      · intro W3 hw K hK; go_simp; exact hK _ _ rfl (Below.refl _ _)
                      · intro W3 hw K hK
                        have q0 := (((Below.refl _ W2).drew.trans hw).cell (World.block_lt_of_cell? _ _ y0)).trans y0
                        go_simp; exact hK _ _ rfl (Below.refl _ _)
                      · intro W3 hw K hK; go_simp; exact hK _ _ rfl (Below.refl _ _)
                      · intro W3 hw K hK; go_simp; exact hK _ _ rfl (Below.refl _ _)
                      · intro W3 hw K hK; go_simp; exact hK _ _ rfl (Below.refl _ _)
                      · intro W3 hw K hK; go_simp; exact hK _ _ rfl (Below.refl _ _)
                      · intro W3 hw K hK; go_simp; exact hK _ _ rfl (Below.refl _ _)
                      · intro W3 hw K hK
                        have q0 : 0 < i := HI0.out
                        go_simp; exact hK _ _ rfl (Below.refl _ _)
                      · intro W3 hw K hK; go_simp; exact hK _ _ rfl (Below.refl _ _)
                      · intro W3 hw K hK; go_simp; exact hK _ _ rfl (Below.refl _ _)
                      · intro W3 hw K hK; go_simp; exact hK _ _ rfl (Below.refl _ _)
                      · intro W3 hw K hK
                        have s1 : IntKind.i64.wrap ((i : Int) - 1) = (j : Int) := HS1.out
                        go_simp; exact hK _ _ rfl (Below.refl _ _)
                      · intro W3 hw K hK; go_simp; exact hK _ _ rfl (Below.refl _ _)
                      · intro W3 hw K hK; go_simp; exact hK _ _ rfl (Below.refl _ _)
                      · intro W3 hw K hK
                        have q0 := (((Below.refl _ W2).drew.trans hw).cell (World.block_lt_of_cell? _ _ v1)).trans v1
                        go_simp; exact hK _ _ rfl (Below.refl _ _)
                      · intro W3 hw K hK; go_simp; exact hK _ _ rfl (Below.refl _ _)
                      · intro W3 hw K hK
                        have q0 := (((Below.refl _ W2).drew.trans hw).cell (World.block_lt_of_cell? _ _ y0)).trans y0
                        go_simp; exact hK _ _ rfl (Below.refl _ _)
                      · intro W3 hw K hK; go_simp; exact hK _ _ rfl (Below.refl _ _)
                      · intro W3 hw K hK; go_simp; exact hK _ _ rfl (Below.refl _ _)
                    · intro W3 hw3
                      have HB3 := Lib.hid (HB2.out.trans (((Below.refl _ W2).drew.trans hw3).mono HB2.out.size))
                      clear hw3
                      simp only [Behind, List.drop, Act.put, List.setIfInBounds_toArray, List.set_cons_zero, List.set_cons_succ]
                      go_wp2_with fail
                      refine NoPanic.normal ?_
                      go_wp2_with fail
                      go_roundw
                      case rel => exact ⟨i + 1, by go_num, by omega, HB3.out⟩
                      case measure => simp [intOf]; omega
                · obtain rfl : i = rl := by omega
                  have HBX := Lib.hid hbx
                  have HVX := Lib.hid (HV.out.below hbx)
                  have HTX := Lib.hid (HTW.out.later hbx)
                  have HQX := Lib.hid (HQW.out.below hbx)
                  have z16 := (hbx.cell (World.block_lt_of_cell? _ _ y16)).trans y16
                  have z7 := (hbx.cell (World.block_lt_of_cell? _ _ y7)).trans y7
                  clear y16 y7 hlt hle hbx
                  have d1 : decide ((0 : Int) < stop) = true := decide_eq_true HNP.out.2.1
                  have d5 : min (i : Int) stop = (np : Int) := HNP.out.2.2
                  go_upto_region 33 with fail
                  have hcap : np ≤ c4 := by
                    obtain ⟨_, _, e, _, _, hle⟩ := rdv_own HQX.out
                    injection e with _ _ e
                    have := HRL.out
                    have := HNP.out.1
                    omega
                  have HSM : Hid (∀ W2, Below wr.heap.size wr W2 → Calls Try.prog 15 #[.slice A6 np c6, .slice A4 np c4] W2 fun e w' => e = .returned (.bool true) ∧ Below W2.heap.size W2 w') := Lib.hid (fun W2 hb => by
                    have h := same_any (c := c6) (c2 := c4) (Rio.ris (HVX.out.below hb) rfl) (ris_take (Rio.ris (HQX.out.below hb) rfl) np) (by have := HRB.out; rw [List.length_take]; omega)
                    rw [HNT.out] at h
                    exact h)
                  clear z7
                  refine wp_region_noPanic ?_
                  refine wp_region_abs 16 135 [.is (.pointer (some ⟨tb, 0, none⟩)), .is (.int .i64 0), .is (.bool true), .is (.bool true), .is (.slice A6 np c6), .is (.int .i64 (np : Int)), .is (.int .i64 (np : Int)), .is (.bool true), .is (.bool true), .is (.bool true), .is (.slice A6 np c6), .is (.slice A4 i c4), .is (.int .i64 (np : Int)), .is (.slice A4 np c4), .is (.bool true), .is (.bool true)]
                    [119, 120, 121, 122, 123, 124, 125, 126, 127, 128, 129, 130, 131, 132, 133, 134]
                    [[],[0],[1],[2,1],[3],[4,3],[3],[5,6,3],[3,7],[8,3],[9],[9],[9],[11,12,9],[10,13,9],[9,14]] (by kernel_rfl) (by rfl) rfl rfl (by kernel_rfl) (fun _ _ _ _ h => h.elim) ?_ ?_
                  · refine ⟨?_, ?_, ?_, ?_, ?_, ?_, ?_, ?_, ?_, ?_, ?_, ?_, ?_, ?_, ?_, ?_, trivial⟩
                    · intro W2 hw K hK; go_simp; exact hK _ _ rfl (Below.refl _ _)
                    · intro W2 hw K hK
                      go_simp
                      refine Calls.mono (tn_len (HTX.out.later ((Below.refl _ wr).drew.trans hw))) ?_
                      rintro e9 w9 ⟨rfl, rfl⟩
                      exact hK _ _ rfl (Below.refl _ _)
                    · intro W2 hw K hK; go_simp; exact hK _ _ rfl (Below.refl _ _)
                    · intro W2 hw K hK; go_simp; exact hK _ _ rfl (Below.refl _ _)
                    · intro W2 hw K hK
                      have c0 := (((Below.refl _ wr).drew.trans hw).cell (World.block_lt_of_cell? _ _ z16)).trans z16
                      go_simp; exact hK _ _ rfl (Below.refl _ _)
                    · intro W2 hw K hK; go_simp; exact hK _ _ rfl (Below.refl _ _)
                    · intro W2 hw K hK; go_simp; exact hK _ _ rfl (Below.refl _ _)
                    · intro W2 hw K hK; go_simp; exact hK _ _ rfl (Below.refl _ _)
                    · intro W2 hw K hK; go_simp; exact hK _ _ rfl (Below.refl _ _)
                    · intro W2 hw K hK; go_simp; exact hK _ _ rfl (Below.refl _ _)
                    · intro W2 hw K hK
                      have c0 := (((Below.refl _ wr).drew.trans hw).cell (World.block_lt_of_cell? _ _ z16)).trans z16
                      go_simp; exact hK _ _ rfl (Below.refl _ _)
                    · intro W2 hw K hK; go_simp; exact hK _ _ rfl (Below.refl _ _)
                    · intro W2 hw K hK; go_simp; exact hK _ _ rfl (Below.refl _ _)
                    · intro W2 hw K hK; go_simp; exact hK _ _ rfl (Below.refl _ _)
                    · intro W2 hw K hK
                      go_simp
                      refine Calls.mono (HSM.out W2 ((Below.refl _ wr).drew.trans hw)) ?_
                      rintro e9 w9 ⟨rfl, hb9⟩
                      exact hK _ _ rfl hb9
                    · intro W2 hw K hK; go_simp; exact hK _ _ rfl (Below.refl _ _)
                  · intro W2 hw2
                    have hbq : Below wd.heap.size wd W2 := (HWD.out.trans (HBX.out.mono HWD.out.size)).trans (((Below.refl _ wr).drew.trans hw2).mono (HWD.out.trans (HBX.out.mono HWD.out.size)).size)
                    have hbe : Below w.heap.size w W2 := HW8.out.trans (hbq.mono HW8.out.size)
                    have hdd : W2.heap[D]? = some (.deferred (some [])) := ((((HBX.out.trans (((Below.refl _ wr).drew.trans hw2).mono HBX.out.size))).block D (Array.getElem?_eq_some_iff.1 HDD.out.2).1)).trans HDD.out.2
                    have hdl : w.heap.size ≤ D := by have h1 := HDD.out.1; have h2 := HDS.out; have h3 := HW8.out.size; omega
                    have HE := Lib.hid (And.intro hbe (And.intro hdd hdl))
                    clear hbq hbe hdd hdl hw2
                    simp only [Behind, List.drop, Act.put, List.setIfInBounds_toArray, List.set_cons_zero, List.set_cons_succ]
                    go_wp2_with fail
                    refine NoPanic.normal ?_
                    go_wp2_with fail
                    refine ⟨by simp, .inl ⟨D, _, rfl, run_takeDeferred HE.out.2.1, ?_⟩⟩
                    exact ⟨.bool true, by simp [results, Try.results22, go_sem], rfl, HE.out.1.grown (grownBy_putObj' W2 D (.deferred none)) HE.out.1.size (fun k e => by cases e; exact HE.out.2.2)⟩
end Go.Proofs.Ytdbckolndaodeaa
