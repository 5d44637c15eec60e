/- TreeEmpties: the walk. -/
import Derived.Test.YtdbckolndaodeaaTSndL
namespace Go.Proofs.Ytdbckolndaodeaa
set_option maxRecDepth 100000
open Go.RowKit Go.ChangeShapes Go.WideShapes Go.ChangeAt

def KI (k : Int) : List Value := [.int .i64 k]
theorem KI.len (k : Int) : (KI k).length = 1 := rfl
section
variable {H : Type} {enc : TypeId × Value → H} {W : World} {sp : Nat → Bool}
theorem open_i {fuel : Nat} {cs : List Value} {x : DataW H × List MemPlace} (hf : DataW.trod enc Try.prog W 0 sp true fuel 3 cs = some x) : ∃ q : Int, cs = KI q ∧ In64 q := by
  obtain ⟨a0, e0, _, w0⟩ := DataW.trod_int Try.underlying3 hf
  exact ⟨a0, e0, bounds_i64 w0⟩
theorem open_ints64 {v : Value} {base : Nat} {r : Reach} {x : DataW H × List MemPlace} (hv : Value.okWide Try.prog W r base 48 v) (h : ∃ fuel, DataW.trod enc Try.prog W 0 sp true fuel 48 v.cells.toList = some x) :
    ∃ A c l, v = .slice A (List.length l) c ∧ RowAt KI 1 W A l.length l ∧ l.length ≤ 9223372036854775807 ∧ ∀ k ∈ l, In64 k := by
  obtain ⟨B, len, cap, rfl⟩ := okWide_slice Try.underlying48 hv
  obtain ⟨fuel, hf⟩ := h
  obtain ⟨A, n, c, l, e, h1, h2, _, h4⟩ := open_rowat (fun q : Int => In64 q) KI.len (by decide) Try.underlying48 cells3 0 open_i (by simpa [Value.cells] using hf)
  obtain rfl := h1.len
  exact ⟨A, c, l, e, h1, h2, h4⟩
end
theorem int_cell {w : World} {A : Option Addr} {l : List Int} (h : RowAt KI 1 w A l.length l) (hn : 0 < l.length) : ∃ b off, A = some ⟨b, off, none⟩ ∧ ∀ q (hq : q < l.length), w.cell? ⟨b, off + q, none⟩ = some (.int .i64 l[q]) := by
  obtain ⟨b, off, e, hc⟩ := RowAt.cells h KI.len hn
  refine ⟨b, off, e, fun q hq => ?_⟩
  have := hc q hq 0 _ (by omega) rfl
  simpa using this
/-- What the tree holds came of the row. -/
def From (ns : List Int) (l : List Ix) : Prop := ∀ x ∈ l, ∃ j : Nat, x.c.v = (j : Int) ∧ ns[j]? = some x.k
theorem From.ins {ns : List Int} {l : List Ix} (h : From ns l) {j : Nat} {k : Int} (hk : ns[j]? = some k) : From ns (ins (⟨k, ⟨(j : Int), 0, false⟩⟩ : Ix) l) := fun x hx => by
  unfold Go.Proofs.Ytdbckolndaodeaa.ins at hx
  rcases List.mem_append.1 hx with e | e
  · exact h x (List.mem_filter.1 e).1
  · rcases List.mem_cons.1 e with e | e
    · rw [e]; exact ⟨j, rfl, hk⟩
    · exact h x (List.mem_filter.1 e).1
theorem From.del {ns : List Int} {l : List Ix} (h : From ns l) (k : Int) : From ns (del k l) := fun x hx => h x (List.mem_filter.1 hx).1
theorem From.got {ns : List Int} {l : List Ix} (h : From ns l) {k : Int} {c : Cl} (hg : getC k l = some c) : ∃ j : Nat, c.v = (j : Int) ∧ ns[j]? = some k := by
  unfold getC at hg
  cases hf : l.find? (fun y => decide (y.k = k)) with
  | none => rw [hf] at hg; cases hg
  | some x =>
    rw [hf] at hg
    have hg : some x.c = some c := hg
    injection hg with hg
    have hx := List.find?_some hf
    have hk : x.k = k := by simpa using hx
    obtain ⟨j, h1, h2⟩ := h x (List.mem_of_find?_eq_some hf)
    exact ⟨j, by rw [← hg]; exact h1, by rw [← hk]; exact h2⟩
theorem get_del (k : Int) (l : List Ix) : getC k (del k l) = none := getC_none k _ fun y hy => by
  have := (List.mem_filter.1 hy).2
  simpa using this
/-- None of those dropped is left. -/
def Gone (ns : List Int) (r z : Nat) (l : List Ix) : Prop := ∀ x ∈ l, ∀ i, i < z → ns[(i + r) % ns.length]? ≠ some x.k
theorem Gone.next {ns : List Int} {r z : Nat} {l : List Ix} (h : Gone ns r z l) {k : Int} (hk : ns[(z + r) % ns.length]? = some k) : Gone ns r (z + 1) (del k l) := fun x hx i hi => by
  obtain ⟨h1, h2⟩ := List.mem_filter.1 hx
  rcases Nat.lt_or_ge i z with e | e
  · exact h x h1 i e
  · obtain rfl : i = z := by omega
    rw [hk]
    intro e2
    injection e2 with e2
    simp at h2
    exact h2 e2.symm
theorem Gone.all {ns : List Int} {r : Nat} {l : List Ix} (h : Gone ns r ns.length l) (hr : r ≤ ns.length) (hf : From ns l) : l = [] := by
  cases l with
  | nil => rfl
  | cons x l =>
    exfalso
    obtain ⟨j, _, hj⟩ := hf x (by simp)
    have hjl := (List.getElem?_eq_some_iff.1 hj).1
    have hn : 0 < ns.length := by omega
    have hi : (j + (ns.length - r)) % ns.length < ns.length := Nat.mod_lt _ hn
    refine h x (by simp) _ hi ?_
    have e : ((j + (ns.length - r)) % ns.length + r) % ns.length = j := by
      rw [Nat.mod_add_mod, show j + (ns.length - r) + r = j + ns.length by omega, Nat.add_mod_right, Nat.mod_eq_of_lt hjl]
    rw [e]
    exact hj
theorem Gone.start (ns : List Int) (r : Nat) (l : List Ix) : Gone ns r 0 l := fun _ _ i hi => absurd hi (Nat.not_lt_zero i)
theorem turn_of (turn : Int) (n : Nat) (hn : 0 < n) (hb : n ≤ 300) : ∃ r : Nat, r < n ∧ wrap64 ((IntKind.u64.wrap turn).tmod (n : Int)) = (r : Int) ∧ (IntKind.u64.wrap turn).tmod (n : Int) = (r : Int) := by
  have h0 : 0 ≤ IntKind.u64.wrap turn := by rw [IntKind.wrap_u64]; omega
  obtain ⟨m, hm⟩ : ∃ m : Nat, IntKind.u64.wrap turn = (m : Int) := ⟨(IntKind.u64.wrap turn).toNat, by omega⟩
  have h1 : (IntKind.u64.wrap turn).tmod (n : Int) = ((m % n : Nat) : Int) := by rw [hm]; rfl
  have h2 : m % n < n := Nat.mod_lt _ hn
  refine ⟨m % n, h2, ?_, h1⟩
  rw [h1]
  unfold wrap64
  omega
set_option maxHeartbeats 16000000 in
theorem empties_law (A : Option Addr) (c : Nat) (ns : List Int) (turn : Int) (w : World) (ho : RowAt KI 1 w A ns.length ns) (hk : ∀ k ∈ ns, In64 k) : Calls Try.prog 7 #[.slice A ns.length c, .int .i64 turn] w fun e w' => e = .returned (.bool true) ∧ Below w.heap.size w w' := by
  have HA := Lib.hid (alive_any w)
  have HO := Lib.hid ho
  have HK := Lib.hid hk
  obtain ⟨n, hn⟩ : ∃ n, n = ns.length := ⟨_, rfl⟩
  have HN := Lib.hid hn
  rw [← hn]
  clear ho hk hn
  by_cases h3 : 300 < n
  · have d3 : decide ((300 : Int) < (n : Int)) = true := decide_eq_true (by omega)
    clear h3
    go_enter Try.func7, Try.ntmps7
    go_wp2_with fail
    refine Calls.mono HA.out ?_
    rintro e w1 ⟨rfl, hb1⟩
    have HB1 := Lib.hid hb1
    clear hb1
    go_wp2_with fail
    go_ret
    exact ⟨rfl, HB1.out⟩
  · have d3 : decide ((300 : Int) < (n : Int)) = false := decide_eq_false (by omega)
    have hn3 : n ≤ 300 := by omega
    clear h3
    go_enter Try.func7, Try.ntmps7
    go_wp2_with fail
    refine Calls.mono HA.out ?_
    rintro e w1 ⟨rfl, hb1⟩
    have HB1 := Lib.hid hb1
    clear hb1
    go_wp2_with fail
    refine Calls.mono (tn_new w1) ?_
    rintro e w2 ⟨tb, rfl, hT⟩
    have HT0 := Lib.hid hT
    clear hT d3
    go_wp2_with fail
    go_loopw [6, 7, 23, 24, 25, 26, 27, 28, 29, 30, 31, 32, 33, 34, 35, 36] (fun _ _ ix _ _ _ _ _ _ _ _ _ _ _ _ _ wr => ∃ (z d : Nat) (l : List Ix), ix = .int .i64 (z : Int) ∧ z ≤ n ∧ TN w1 wr tb l d z ∧ From ns l) (fun _ _ ix _ _ _ _ _ _ _ _ _ _ _ _ _ _ => n - (intOf ix).toNat)
    case atStart => exact ⟨0, 0, [], rfl, by omega, HT0.out, fun x hx => by simp at hx⟩
    case round =>
      obtain ⟨z, d, l, rfl, hz, hT, hFr⟩ := hrel
      have HT := Lib.hid (And.intro hT hFr)
      clear hT hFr
      by_cases hlt : z < n
      · have hzl : z < ns.length := by rw [← HN.out]; exact hlt
        have hbw : Below w.heap.size w wr := HB1.out.trans (HT.out.1.b.mono HB1.out.size)
        obtain ⟨b, off, rfl, hcl⟩ := int_cell (RowAt.below HO.out hbw) (by omega)
        have x0 := hcl z hzl
        obtain ⟨k, hk⟩ : ∃ k, k = ns[z] := ⟨_, rfl⟩
        have hkk : ns[z]? = some k := by rw [hk]; exact List.getElem?_eq_getElem hzl
        rw [← hk] at x0
        have HKK := Lib.hid hkk
        have HS := Lib.hid (tn_set HT.out.1 (by omega) ⟨k, ⟨(z : Int), 0, false⟩⟩ (HK.out k (List.mem_of_getElem? hkk)))
        clear hcl hk hkk hbw
        go_wp2_with fail
        refine Calls.mono HS.out ?_
        rintro e w3 ⟨rfl, d2, hT2⟩
        have HT2 := Lib.hid hT2
        clear hT2 HS
        go_wp2_with fail
        go_roundw
        case rel => exact ⟨z + 1, d2, _, by go_num, by omega, HT2.out, HT.out.2.ins HKK.out⟩
        case measure => simp [intOf]; omega
      · obtain rfl : z = n := by omega
        clear hlt hz
        rcases Nat.eq_zero_or_pos z with hz0 | hz0
        · subst hz0
          have hl0 : l.length = 0 := by have := HT.out.1.few; omega
          have HLN := Lib.hid (tn_len HT.out.1)
          have HDP := Lib.hid (tn_deep HT.out.1 (by omega))
          rw [hl0] at HLN HDP
          rw [if_pos rfl] at HDP
          clear hl0
          go_wp2_with fail
          go_loopw [9, 10, 11, 12, 13, 14, 40, 41, 42, 43, 44, 45, 46, 47, 48, 49, 50, 51, 52, 53, 54, 55, 56, 57, 58, 59, 60, 61, 62, 63, 64, 65, 66, 67, 68, 69, 70, 71, 72, 73, 74, 75, 76, 77, 78, 79, 80, 81, 82, 83, 84, 85, 86, 87, 88, 89, 90, 91, 92, 93, 94, 95, 96, 97] (fun _ _ _ _ _ _ ix _ _ _ _ _ _ _ _ _ _ _ _ _ _ _ _ _ _ _ _ _ _ _ _ _ _ _ _ _ _ _ _ _ _ _ _ _ _ _ _ _ _ _ _ _ _ _ _ _ _ _ _ _ _ _ _ _ wx => ix = .int .i64 0 ∧ wx = wr) (fun _ _ _ _ _ _ ix _ _ _ _ _ _ _ _ _ _ _ _ _ _ _ _ _ _ _ _ _ _ _ _ _ _ _ _ _ _ _ _ _ _ _ _ _ _ _ _ _ _ _ _ _ _ _ _ _ _ _ _ _ _ _ _ _ _ => 0)
          case atStart => exact ⟨rfl, rfl⟩
          case round =>
            obtain ⟨rfl, rfl⟩ := hrel
            go_wp2_with fail
            refine Calls.mono HLN.out ?_
            rintro e w4 ⟨rfl, rfl⟩
            go_wp2_with fail
            refine Calls.mono HDP.out ?_
            rintro e w4 ⟨rfl, rfl⟩
            go_wp2_with fail
            go_ret
            exact ⟨rfl, HB1.out.trans (HT.out.1.b.mono HB1.out.size)⟩
        · obtain ⟨r, hr, hr1, hr2⟩ := turn_of turn z hz0 hn3
          have HR := Lib.hid (And.intro hr hz0)
          have hzn : (z : Int) ≠ 0 := by omega
          have hzn2 : ((z : Int) == 0) = false := by rw [beq_eq_false_iff_ne]; exact hzn
          have hzu : IntKind.u64.wrap (z : Int) = (z : Int) := by rw [IntKind.wrap_u64]; omega
          clear hr hz0
          go_wp2_with fail
          go_loopw [9, 10, 11, 12, 13, 14, 40, 41, 42, 43, 44, 45, 46, 47, 48, 49, 50, 51, 52, 53, 54, 55, 56, 57, 58, 59, 60, 61, 62, 63, 64, 65, 66, 67, 68, 69, 70, 71, 72, 73, 74, 75, 76, 77, 78, 79, 80, 81, 82, 83, 84, 85, 86, 87, 88, 89, 90, 91, 92, 93, 94, 95, 96, 97] (fun _ _ _ _ _ _ ix _ _ _ _ _ _ _ _ _ _ _ _ _ _ _ _ _ _ _ _ _ _ _ _ _ _ _ _ _ _ _ _ _ _ _ _ _ _ _ _ _ _ _ _ _ _ _ _ _ _ _ _ _ _ _ _ _ wr => ∃ (i d : Nat) (l : List Ix), ix = .int .i64 (i : Int) ∧ i ≤ z ∧ TN w1 wr tb l d z ∧ From ns l ∧ Gone ns r i l) (fun _ _ _ _ _ _ ix _ _ _ _ _ _ _ _ _ _ _ _ _ _ _ _ _ _ _ _ _ _ _ _ _ _ _ _ _ _ _ _ _ _ _ _ _ _ _ _ _ _ _ _ _ _ _ _ _ _ _ _ _ _ _ _ _ _ => z - (intOf ix).toNat)
          case atStart => exact ⟨0, d, l, rfl, Nat.zero_le _, HT.out.1, HT.out.2, Gone.start _ _ _⟩
          case round =>
            obtain ⟨i, d, l, rfl, hi, hT, hFr, hGo⟩ := hrel
            have HT := Lib.hid (And.intro hT (And.intro hFr hGo))
            clear hT hFr hGo
            by_cases hlt : i < z
            · obtain ⟨q, hq⟩ : ∃ q, q = (i + r) % z := ⟨_, rfl⟩
              have hqz : q < z := by rw [hq]; exact Nat.mod_lt _ (by omega)
              have hq1 : ((i : Int) + (r : Int)) % (z : Int) = (q : Int) := by rw [hq]; rfl
              have hq2 : ((i : Int) + (r : Int)).tmod (z : Int) = (q : Int) := by rw [hq]; rfl
              have hrb : r ≤ 300 := by have := HR.out.1; omega
              have hql : q < ns.length := by rw [← HN.out]; exact hqz
              have hbw : Below w.heap.size w wr := HB1.out.trans (HT.out.1.b.mono HB1.out.size)
              obtain ⟨b, off, rfl, hcl⟩ := int_cell (RowAt.below HO.out hbw) (by omega)
              have x0 := hcl q hql
              obtain ⟨k, hk⟩ : ∃ k, k = ns[q] := ⟨_, rfl⟩
              have hkk : ns[q]? = some k := by rw [hk]; exact List.getElem?_eq_getElem hql
              rw [← hk] at x0
              have HKK : Hid (ns[(i + r) % ns.length]? = some k) := Lib.hid (by rw [← HN.out, ← hq]; exact hkk)
              have HCL := Lib.hid (fun W (hb : Below w.heap.size w W) (j : Nat) (hj : ns[j]? = some k) => (by
                obtain ⟨hjl, hje⟩ := List.getElem?_eq_some_iff.1 hj
                obtain ⟨b', off', e, hcl'⟩ := int_cell (RowAt.below HO.out hb) (by omega)
                injection e with e
                injection e with e1 e2
                have := hcl' j hjl
                rw [hje, ← e1, ← e2] at this
                exact this : W.cell? ⟨b, off + j, none⟩ = some (.int .i64 k)))
              have HD := Lib.hid (tn_drop HT.out.1 (by omega) k)
              obtain ⟨G, hG⟩ : ∃ G, G = getC k l := ⟨_, rfl⟩
              rw [← hG] at HD
              have HG := Lib.hid hG
              have hqi : (q : Int) < (z : Int) := by omega
              have hq0 : (0 : Int) ≤ (q : Int) := by omega
              clear hcl hk hkk hbw hG hq hql
              go_wp2_with fail
              refine Calls.mono HD.out ?_
              rintro e w3 ⟨rfl, d2, hT2⟩
              have HT2 := Lib.hid (hT2.later ((Below.refl _ w3).alloc (Nat.le_refl _) (.cells #[.int .i64 (cv G).v, .int .i64 (cv G).s, .bool (cv G).dead] 29)))
              have HGT := Lib.hid (tn_get HT2.out k)
              rw [get_del] at HGT
              change Hid (Calls Try.prog _ _ _ fun e w' => e = .returned (.tuple #[.agg #[.int .i64 0, .int .i64 0, .bool false], .bool false]) ∧ _) at HGT
              have hcx : (w3.alloc (.cells #[.int .i64 (cv G).v, .int .i64 (cv G).s, .bool (cv G).dead] 29)).heap[w3.heap.size]? = some (.cells #[.int .i64 (cv G).v, .int .i64 (cv G).s, .bool (cv G).dead] 29 (0, 0)) := heap_alloc_new w3 _
              have HCX := Lib.hid hcx
              clear hT2 HD x0 hcx
              go_wp2_with fail
              refine Calls.mono HGT.out ?_
              rintro e w4 ⟨rfl, hb4⟩
              have hcx4 := (hb4.block _ (Array.getElem?_eq_some_iff.1 HCX.out).1).trans HCX.out
              obtain ⟨s3, hs3⟩ : ∃ s3, s3 = w3.heap.size := ⟨_, rfl⟩
              rw [← hs3] at hcx4 ⊢
              have z0 : (w4.alloc (.cells #[.int .i64 0, .int .i64 0, .bool false] 29)).cell? ⟨s3, 0, none⟩ = some (.int .i64 (cv G).v) := by
                rw [cell_of_row _ _ 0 _ _ _ ((((Below.refl _ w4).alloc (Nat.le_refl _) _).block _ (Array.getElem?_eq_some_iff.1 hcx4).1).trans hcx4)]; rfl
              have HT4 := Lib.hid ((HT2.out.later hb4).later ((Below.refl _ w4).alloc (Nat.le_refl _) (.cells #[.int .i64 0, .int .i64 0, .bool false] 29)))
              have HSO := Lib.hid (tn_sound HT4.out (by omega))
              have HLE := Lib.hid (And.intro (HT.out.2.1.del k) (HT.out.2.2.next HKK.out))
              clear hb4 hcx4 hs3 HGT HCX
              cases G with
              | none =>
                go_wp2_with fail
                refine Calls.mono HSO.out ?_
                rintro e w5 ⟨rfl, hb5⟩
                have HT5 := Lib.hid (HT4.out.later hb5)
                clear hb5
                go_wp2_with fail
                go_roundw
                case rel => exact ⟨i + 1, d2, _, by go_num, by omega, HT5.out, HLE.out.1, HLE.out.2⟩
                case measure => simp [intOf]; omega
              | some cc =>
                obtain ⟨j, hj1, hj2⟩ := HT.out.2.1.got HG.out.symm
                have hjz : j < z := by rw [HN.out]; exact (List.getElem?_eq_some_iff.1 hj2).1
                have x1 := HCL.out _ (HB1.out.trans (HT4.out.b.mono HB1.out.size)) j hj2
                have hz5 : (cv (some cc)).v = (j : Int) := hj1
                rw [hz5] at z0
                have hjz2 : (j : Int) < (z : Int) := by omega
                have hj0 : (0 : Int) ≤ (j : Int) := by omega
                have t1 : decide ((j : Int) < 0) = false := decide_eq_false (by omega)
                have t2 : decide ((z : Int) ≤ (j : Int)) = false := decide_eq_false (by omega)
                have t3 : (k != k) = false := by simp
                have t4 : decide (z ≤ j) = false := decide_eq_false (by omega)
                clear hj1 hj2 hz5
                go_wp2_with fail
                refine Calls.mono HSO.out ?_
                rintro e w5 ⟨rfl, hb5⟩
                have HT5 := Lib.hid (HT4.out.later hb5)
                clear hb5
                go_wp2_with fail
                go_roundw
                case rel => exact ⟨i + 1, d2, _, by go_num, by omega, HT5.out, HLE.out.1, HLE.out.2⟩
                case measure => simp [intOf]; omega
            · obtain rfl : i = z := by omega
              have hl0 : l = [] := Gone.all (by rw [← HN.out]; exact HT.out.2.2) (by rw [← HN.out]; have := HR.out.1; omega) HT.out.2.1
              subst hl0
              have HLN := Lib.hid (tn_len HT.out.1)
              have HDP := Lib.hid (tn_deep HT.out.1 (by omega))
              change Hid (Calls Try.prog _ _ _ fun e w' => e = .returned (.int .i64 0) ∧ _) at HLN
              change Hid (Calls Try.prog _ _ _ fun e w' => e = .returned (.int .i64 0) ∧ _) at HDP
              clear hlt hi
              go_wp2_with fail
              refine Calls.mono HLN.out ?_
              rintro e w4 ⟨rfl, rfl⟩
              go_wp2_with fail
              refine Calls.mono HDP.out ?_
              rintro e w4 ⟨rfl, rfl⟩
              go_wp2_with fail
              go_ret
              exact ⟨rfl, HB1.out.trans (HT.out.1.b.mono HB1.out.size)⟩
end Go.Proofs.Ytdbckolndaodeaa
