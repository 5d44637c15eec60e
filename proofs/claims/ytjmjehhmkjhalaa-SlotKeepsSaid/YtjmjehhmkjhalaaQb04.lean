/- WTake: put together. -/
import Derived.Test.YtjmjehhmkjhalaaQb03
/- The contracts of a reader's take and Byte. -/
namespace Go.Proofs.Ytjmjehhmkjhalaa
set_option maxRecDepth 100000
open Go.RowKit

/-- What take leaves, and answers. -/
def failT (bs : List Nat) (bad : Bool) (m : Nat) : Bool := bad || decide (bs.length < m)
def outT (bs : List Nat) (bad : Bool) (m : Nat) : List Nat := if failT bs bad m then [] else bs.take m
def restT (bs : List Nat) (bad : Bool) (m : Nat) : List Nat := if failT bs bad m then [] else bs.drop m
/-- What a take leaves. -/
theorem take_end {w : World} {B : Nat → Prop} {g b off n c m : Nat} {bs : List Nat} (low : B g) (block : w.heap[g]? = some (.cells #[.slice (some ⟨b, off, none⟩) n c, .bool false] 237 (0, 0))) (row : Rdv w (some ⟨b, off, none⟩) n 1 (valsB bs)) (small : ∀ x ∈ bs, x < 256) (len : n ≤ 140737488355328) (h1 : B b) (h2 : b ≠ g) (h3 : b < w.heap.size) (hmn : m ≤ n) (off' c' : Nat) (ho : off' = off + m ∨ n = m) (hc : n - m ≤ c') :
    Rdv (w.setCell ⟨g, 0, none⟩ (.slice (some ⟨b, off', none⟩) (n - m) c')) (some ⟨b, off, none⟩) m 1 (valsB (bs.take m)) ∧ Rdr (w.setCell ⟨g, 0, none⟩ (.slice (some ⟨b, off', none⟩) (n - m) c')) B (.pointer (some ⟨g, 0, none⟩)) (bs.drop m) false := by
  have hl : bs.length = n := by have := row.1; rw [valsB_length] at this; omega
  have hcell : ∀ o, (w.setCell ⟨g, 0, none⟩ (.slice (some ⟨b, off', none⟩) (n - m) c')).cell? ⟨b, o, none⟩ = w.cell? ⟨b, o, none⟩ := fun o => World.cell?_of_block (Deep.blk_setCell_other w ⟨g, 0, none⟩ _ b h2)
  have hrow : ∀ j (x : Nat), bs[j]? = some x → w.cell? ⟨b, off + j, none⟩ = some (.int .u8 (x : Int)) := fun j x hj => by
    have hj' := (List.getElem?_eq_some_iff.1 hj).1
    obtain ⟨b', o', e, hc'⟩ := row.2 (by omega)
    injection e with e
    injection e with e1 e2
    subst e1 e2
    exact hc' j _ (by rw [valsB_get, hj]; rfl)
  refine ⟨⟨by rw [valsB_length, List.length_take]; omega, fun _ => ⟨b, off, rfl, fun j u hj => ?_⟩⟩, .some g _ _ _ _ _ low ?_ ⟨by rw [valsB_length, List.length_drop]; omega, fun _ => ⟨b, off', rfl, fun j u hj => ?_⟩⟩ (.inr ⟨b, off', rfl, h1, h2, by rw [World.size_setCell]; exact h3, hc⟩) (fun h => by cases h) (fun x hx => small x (List.mem_of_mem_drop hx)) (by omega)⟩
  · rw [valsB_get, List.getElem?_take] at hj
    by_cases hjm : j < m
    · rw [if_pos hjm] at hj
      cases hx : bs[j]? with
      | none => rw [hx] at hj; cases hj
      | some x => rw [hx] at hj; cases hj; rw [hcell]; exact hrow j x hx
    · rw [if_neg hjm] at hj; cases hj
  · simp [World.setCell, Array.getElem?_modify, block]
  · rw [valsB_get, List.getElem?_drop] at hj
    cases hx : bs[m + j]? with
    | none => rw [hx] at hj; cases hj
    | some x =>
      rw [hx] at hj
      cases hj
      have hj' := (List.getElem?_eq_some_iff.1 hx).1
      rcases ho with rfl | rfl
      · rw [hcell, Nat.add_assoc]; exact hrow _ x hx
      · omega
set_option maxHeartbeats 1000000 in
theorem take_any (B : Nat → Prop) (V : Value) (bs : List Nat) (bad : Bool) (m : Nat) (hm : m < 18446744073709551616) (w : World) (h : Rdr w B V bs bad) :
    Calls Try.prog 149 #[V, .int .u64 (m : Int)] w fun e w' => ∃ v, e = .returned v ∧ ∃ A c, v = .slice A (outT bs bad m).length c ∧ Rdv w' A (outT bs bad m).length 1 (valsB (outT bs bad m)) ∧ (A = none → c = 0 ∧ outT bs bad m = []) ∧ Rdr w' B V (restT bs bad m) (failT bs bad m) ∧ Only w w' V := by
  have HI := Lib.hid (isBad_any B V bs bad w h)
  have HS := Lib.hid (spoil_any B V bs bad w h)
  cases h with
  | none =>
    rw [show outT [] true m = [] from rfl, show restT [] true m = [] from rfl, show failT [] true m = true from rfl]
    go_enter Try.func149, Try.ntmps149
    go_wp2_with fail
    refine Calls.mono HI.out ?_
    rintro e w1 ⟨rfl, rfl⟩
    go_wp2_with fail
    refine Calls.mono HS.out ?_
    rintro e w1 ⟨rfl, h1, h2⟩
    have H1 := Lib.hid h1
    have H2 := Lib.hid h2
    clear h1 h2
    go_wp2_with fail
    go_ret
    exact ⟨_, rfl, none, 0, rfl, ⟨rfl, fun h => absurd h (by simp)⟩, fun _ => ⟨rfl, trivial⟩, H1.out, H2.out⟩
  | some g A n c bs bad low block row lies hbad small len =>
    have hl : bs.length = n := by have := row.1; rw [valsB_length] at this; omega
    have c0 : w.cell? ⟨g, 0, none⟩ = some (.slice A n c) := cell_of_row w g 0 _ 237 (0, 0) block
    have f0 : w.frozen? ⟨g, 0, none⟩ = false := by simp [World.frozen?, block]
    cases bad with
    | true =>
      rw [show outT bs true m = [] from rfl, show restT bs true m = [] from rfl, show failT bs true m = true from rfl]
      clear block row lies hbad small len hl f0 c0
      go_enter Try.func149, Try.ntmps149
      go_wp2_with fail
      refine Calls.mono HI.out ?_
      rintro e w1 ⟨rfl, rfl⟩
      go_wp2_with fail
      refine Calls.mono HS.out ?_
      rintro e w1 ⟨rfl, h1, h2⟩
      have H1 := Lib.hid h1
      have H2 := Lib.hid h2
      clear h1 h2
      go_wp2_with fail
      go_ret
      exact ⟨_, rfl, none, 0, rfl, ⟨rfl, fun h => absurd h (by simp)⟩, fun _ => ⟨rfl, trivial⟩, H1.out, H2.out⟩
    | false =>
      by_cases hlt : n < m
      · have hf : failT bs false m = true := by simp [failT]; omega
        rw [show outT bs false m = [] by simp [outT, hf], show restT bs false m = [] by simp [restT, hf], hf]
        clear block row lies hbad small hl f0 hf
        go_enter Try.func149, Try.ntmps149
        go_wp2_with fail
        refine Calls.mono HI.out ?_
        rintro e w1 ⟨rfl, rfl⟩
        go_wp2_with fail
        refine Calls.mono HS.out ?_
        rintro e w1 ⟨rfl, h1, h2⟩
        have H1 := Lib.hid h1
        have H2 := Lib.hid h2
        clear h1 h2
        go_wp2_with fail
        go_ret
        exact ⟨_, rfl, none, 0, rfl, ⟨rfl, fun h => absurd h (by simp)⟩, fun _ => ⟨rfl, trivial⟩, H1.out, H2.out⟩
      · have hf : failT bs false m = false := by simp [failT]; omega
        rw [show outT bs false m = bs.take m by simp [outT, hf], show restT bs false m = bs.drop m by simp [restT, hf], hf]
        rcases lies with ⟨rfl, rfl, rfl⟩ | ⟨b, off, rfl, h1, h2, h3, h4⟩
        · obtain rfl : m = 0 := by omega
          have e1 : bs = [] := List.eq_nil_of_length_eq_zero hl
          subst e1
          rw [show ([] : List Nat).take 0 = [] from rfl, show ([] : List Nat).drop 0 = [] from rfl]
          have hr' : Rdr (w.setCell ⟨g, 0, none⟩ (.slice none 0 0)) B (.pointer (some ⟨g, 0, none⟩)) [] false := by
            refine .some g none 0 0 [] false low ?_ ⟨rfl, fun h => absurd h (by omega)⟩ (.inl ⟨rfl, rfl, rfl⟩) (fun h => by cases h) (fun x hx => by cases hx) (by omega)
            simp [World.setCell, Array.getElem?_modify, block]
          have HR := Lib.hid hr'
          clear hr' block row hbad small hl hf HS
          go_enter Try.func149, Try.ntmps149
          go_wp2_with fail
          refine Calls.mono HI.out ?_
          rintro e w1 ⟨rfl, rfl⟩
          go_wp2_with fail
          go_ret
          exact ⟨_, rfl, none, 0, rfl, ⟨rfl, fun h => absurd h (by simp)⟩, fun _ => ⟨rfl, trivial⟩, HR.out, Only.set _ _ _ _⟩
        · have hA : (⟨b, off, none⟩ : Addr).add m = ⟨b, off + m, none⟩ := addr_plus b off m
          have htl : (bs.take m).length = m := by rw [List.length_take]; omega
          have HE := Lib.hid (take_end low block row small len h1 h2 h3 (show m ≤ n by omega))
          obtain ⟨os, ho⟩ : ∃ os, os = bs.take m := ⟨_, rfl⟩
          obtain ⟨rs, hr⟩ : ∃ rs, rs = bs.drop m := ⟨_, rfl⟩
          rw [← ho] at htl ⊢
          rw [← hr, htl]
          rw [← ho, ← hr] at HE
          clear hf ho hr HS htl hl hbad row block low h1 h2 h3 small
          go_enter Try.func149, Try.ntmps149
          go_wp2_with fail
          refine Calls.mono HI.out ?_
          rintro e w1 ⟨rfl, rfl⟩
          go_wp2_with fail
          case inl =>
            obtain ⟨q1, q2⟩ := HE.out off 0 (.inr (by omega)) (by omega)
            have Q1 := Lib.hid q1
            have Q2 := Lib.hid q2
            clear q1 q2
            go_ret
            exact ⟨_, rfl, _, _, rfl, Q1.out, (fun h => by cases h), Q2.out, Only.set _ _ _ _⟩
          case inr =>
            obtain ⟨q1, q2⟩ := HE.out (off + m) (c - m) (.inl rfl) (by omega)
            have Q1 := Lib.hid q1
            have Q2 := Lib.hid q2
            clear q1 q2
            go_ret
            exact ⟨_, rfl, _, _, rfl, Q1.out, (fun h => by cases h), Q2.out, Only.set _ _ _ _⟩
/-- What a byte is, read. -/
def byteT (bs : List Nat) : Nat := bs.headD 0
set_option maxHeartbeats 400000 in
theorem rbyte_any (B : Nat → Prop) (V : Value) (bs : List Nat) (bad : Bool) (w : World) (h : Rdr w B V bs bad) :
    Calls Try.prog 121 #[V] w fun e w' => e = .returned (.int .u8 ((byteT bs : Nat) : Int)) ∧ Rdr w' B V (bs.drop 1) (bad || decide (bs.length = 0)) ∧ Only w w' V := by
  have HT := Lib.hid (take_any B V bs bad 1 (by omega) w h)
  rcases bs with _ | ⟨x, t⟩
  · have hT := HT.out
    rw [show outT [] bad 1 = [] by cases bad <;> rfl, show restT [] bad 1 = [] by cases bad <;> rfl, show failT [] bad 1 = true by cases bad <;> rfl] at hT
    rw [show ([] : List Nat).drop 1 = [] from rfl, show (bad || decide (([] : List Nat).length = 0)) = true by cases bad <;> rfl, show byteT [] = 0 from rfl]
    have HT := Lib.hid hT
    clear hT h
    go_enter Try.func121, Try.ntmps121
    go_wp2_with fail
    refine Calls.mono HT.out ?_
    rintro e w1 ⟨_, rfl, A, c, rfl, h1, h2, h3, h4⟩
    have H3 := Lib.hid h3
    have H4 := Lib.hid h4
    clear h1 h2 h3 h4
    go_wp2_with fail
    go_ret
    exact ⟨rfl, H3.out, H4.out⟩
  · have hb : bad = false := by
      cases bad with
      | false => rfl
      | true => have := h.empty; cases this
    subst hb
    have hT := HT.out
    rw [show outT (x :: t) false 1 = [x] by simp [outT, failT], show restT (x :: t) false 1 = t by simp [restT, failT], show failT (x :: t) false 1 = false by simp [failT]] at hT
    rw [show (x :: t).drop 1 = t from rfl, show (false || decide ((x :: t).length = 0)) = false by simp, show byteT (x :: t) = x from rfl]
    have HT := Lib.hid hT
    clear hT h
    go_enter Try.func121, Try.ntmps121
    go_wp2_with fail
    refine Calls.mono HT.out ?_
    rintro e w1 ⟨_, rfl, A, c, rfl, h1, h2, h3, h4⟩
    obtain ⟨b, off, rfl, hc⟩ := h1.2 (by simp)
    have c0 : w1.cell? ⟨b, off, none⟩ = some (.int .u8 (x : Int)) := hc 0 _ rfl
    have H3 := Lib.hid h3
    have H4 := Lib.hid h4
    clear h1 h2 h3 h4 hc
    go_wp2_with fail
    go_ret
    exact ⟨rfl, H3.out, H4.out⟩
/-- What End answers. -/
def endV (bs : List Nat) (bad : Bool) : Value := if bad = false ∧ bs = [] then .nilIface else .iface 43 (.int .i64 2)
set_option maxHeartbeats 400000 in
theorem end_any (B : Nat → Prop) (V : Value) (bs : List Nat) (bad : Bool) (w : World) (h : Rdr w B V bs bad) :
    Calls Try.prog 122 #[V] w fun e w' => ∃ v, e = .returned v ∧ v = endV bs bad ∧ w = w' := by
  have HI := Lib.hid (isBad_any B V bs bad w h)
  cases bad with
  | true =>
    rw [show endV bs true = .iface 43 (.int .i64 2) from rfl]
    clear h
    go_enter Try.func122, Try.ntmps122
    go_wp2_with fail
    refine Calls.mono HI.out ?_
    rintro e w1 ⟨rfl, rfl⟩
    go_wp2_with fail
    go_ret
    exact ⟨_, rfl, rfl, rfl⟩
  | false =>
    cases h with
    | some g A n c bs bad low block row lies hbad small len =>
      have hl : bs.length = n := by have := row.1; rw [valsB_length] at this; omega
      have c0 : w.cell? ⟨g, 0, none⟩ = some (.slice A n c) := cell_of_row w g 0 _ 237 (0, 0) block
      by_cases h0 : n = 0
      · subst h0
        rw [show endV bs false = .nilIface by rw [List.eq_nil_of_length_eq_zero hl]; rfl]
        clear block row lies hbad small hl
        go_enter Try.func122, Try.ntmps122
        go_wp2_with fail
        refine Calls.mono HI.out ?_
        rintro e w1 ⟨rfl, rfl⟩
        go_wp2_with fail
        go_ret
        exact ⟨_, rfl, rfl, rfl⟩
      · have hp : 0 < n := Nat.pos_of_ne_zero h0
        have he : bs ≠ [] := fun e => by rw [e] at hl; simp at hl; omega
        rw [show endV bs false = .iface 43 (.int .i64 2) by simp [endV, he]]
        clear block row lies hbad small hl he
        go_enter Try.func122, Try.ntmps122
        go_wp2_with fail
        refine Calls.mono HI.out ?_
        rintro e w1 ⟨rfl, rfl⟩
        go_wp2_with fail
        go_ret
        exact ⟨_, rfl, rfl, rfl⟩
end Go.Proofs.Ytjmjehhmkjhalaa
