/- WRf, WRfMath, WRfC: put together. -/
import Derived.Test.YtejpjbmbcdgomaaPe35
import Derived.BigQuiet
import Derived.Deep.QuietTactic
/- The document's reader in memory: it reads bytes that came in. The contracts of fail, Byte, Flag, Done. -/
namespace Go.Proofs.Ytejpjbmbcdgomaa
set_option maxRecDepth 100000
open Go.RowKit

/-- The document's reader: its block, the bytes that are left of what came in. -/
structure Rf (w : World) (B g : Nat) (A : Option Addr) (n c : Nat) (bs : List Nat) (bad : Bool) : Prop where
  low : B ≤ g
  block : w.heap[g]? = some (.cells #[.slice A n c, .bool bad] 127 (0, 0))
  row : Rdv w A n 1 (valsB bs)
  lies : (A = none ∧ n = 0 ∧ c = 0) ∨ ∃ b off, A = some ⟨b, off, none⟩ ∧ b < B ∧ n ≤ c
  hbad : bad = true → bs = []
  small : ∀ x ∈ bs, x < 256
  len : n ≤ 140737488355328
def Rfx (w : World) (B g : Nat) (bs : List Nat) (bad : Bool) : Prop := ∃ A n c, Rf w B g A n c bs bad
theorem Rf.lt {w : World} {B g : Nat} {A : Option Addr} {n c : Nat} {bs : List Nat} {bad : Bool} (h : Rf w B g A n c bs bad) : g < w.heap.size := (Array.getElem?_eq_some_iff.1 h.block).1
theorem Rf.blen {w : World} {B g : Nat} {A : Option Addr} {n c : Nat} {bs : List Nat} {bad : Bool} (h : Rf w B g A n c bs bad) : bs.length = n := by have := h.row.1; rw [valsB_length] at this; omega
theorem Rf.c0 {w : World} {B g : Nat} {A : Option Addr} {n c : Nat} {bs : List Nat} {bad : Bool} (h : Rf w B g A n c bs bad) : w.cell? ⟨g, 0, none⟩ = some (.slice A n c) := cell_of_row w g 0 _ 127 (0, 0) h.block
theorem Rf.c1 {w : World} {B g : Nat} {A : Option Addr} {n c : Nat} {bs : List Nat} {bad : Bool} (h : Rf w B g A n c bs bad) : w.cell? ⟨g, 1, none⟩ = some (.bool bad) := cell_of_row w g 1 _ 127 (0, 0) h.block
theorem Rf.f {w : World} {B g : Nat} {A : Option Addr} {n c : Nat} {bs : List Nat} {bad : Bool} (h : Rf w B g A n c bs bad) (o : Nat) : w.frozen? ⟨g, o, none⟩ = false := by
  have := h.block
  simp [World.frozen?, this]
/-- It stands where its block stands and what came in. -/
theorem Rf.stays {w w' : World} {B g : Nat} {A : Option Addr} {n c : Nat} {bs : List Nat} {bad : Bool} (h : Rf w B g A n c bs bad) (hg : w'.heap[g]? = w.heap[g]?) (hk : ∀ k, k < B → w'.heap[k]? = w.heap[k]?) : Rf w' B g A n c bs bad := by
  refine ⟨h.low, hg.trans h.block, ⟨h.row.1, fun hn => ?_⟩, h.lies, h.hbad, h.small, h.len⟩
  obtain ⟨b, off, e, hc⟩ := h.row.2 hn
  rcases h.lies with ⟨_, h0, _⟩ | ⟨b', off', e', h1, h2⟩
  · omega
  · rw [e] at e'
    injection e' with e'
    injection e' with e1 e2 e3
    subst e1
    exact ⟨b, off, e, fun j u hj => by rw [← hc j u hj]; exact World.cell?_of_block (hk b h1)⟩
theorem Rfx.stays {w w' : World} {B g : Nat} {bs : List Nat} {bad : Bool} (h : Rfx w B g bs bad) (hg : w'.heap[g]? = w.heap[g]?) (hk : ∀ k, k < B → w'.heap[k]? = w.heap[k]?) : Rfx w' B g bs bad := by
  obtain ⟨A, n, c, h⟩ := h
  exact ⟨A, n, c, h.stays hg hk⟩
theorem Rfx.small {w : World} {B g : Nat} {bs : List Nat} {bad : Bool} (h : Rfx w B g bs bad) : ∀ x ∈ bs, x < 256 := by
  obtain ⟨A, n, c, h⟩ := h
  exact h.small
theorem Rfx.empty {w : World} {B g : Nat} {bs : List Nat} (h : Rfx w B g bs true) : bs = [] := by
  obtain ⟨A, n, c, h⟩ := h
  exact h.hbad rfl
theorem Rfx.len {w : World} {B g : Nat} {bs : List Nat} {bad : Bool} (h : Rfx w B g bs bad) : bs.length ≤ 140737488355328 := by
  obtain ⟨A, n, c, h⟩ := h
  rw [h.blen]; exact h.len
/-- Only the reader's block is changed. -/
abbrev OnlyG (w w' : World) (g : Nat) : Prop := Only w w' (.pointer (some ⟨g, 0, none⟩))
theorem OnlyG.at {w w' : World} {g : Nat} (h : OnlyG w w' g) {k : Nat} (hk : k < w.heap.size) (hne : k ≠ g) : w'.heap[k]? = w.heap[k]? :=
  h.block k hk (fun he => by injection he with he; injection he with he; injection he with he; exact hne he.symm)
/-- The first m bytes are taken. -/
theorem Rf.cut {w : World} {B g b off n c : Nat} {bs : List Nat} (h : Rf w B g (some ⟨b, off, none⟩) n c bs false) (m : Nat) (hmn : m ≤ n) (off' c' : Nat) (ho : off' = off + m ∨ n = m) (hc : n - m ≤ c') :
    Rf (w.setCell ⟨g, 0, none⟩ (.slice (some ⟨b, off', none⟩) (n - m) c')) B g (some ⟨b, off', none⟩) (n - m) c' (bs.drop m) false := by
  have hl := h.blen
  have h1 : b < B := by
    rcases h.lies with ⟨h0, _⟩ | ⟨b', off', e', h1, h2⟩
    · cases h0
    · injection e' with e'; injection e' with e1; omega
  have hbg : b ≠ g := by have := h.low; omega
  have hcell : ∀ o, (w.setCell ⟨g, 0, none⟩ (.slice (some ⟨b, off', none⟩) (n - m) c')).cell? ⟨b, o, none⟩ = w.cell? ⟨b, o, none⟩ := fun o => World.cell?_of_block (Deep.blk_setCell_other w ⟨g, 0, none⟩ _ b hbg)
  have hblock := h.block
  refine ⟨h.low, ?_, ⟨by rw [valsB_length, List.length_drop]; omega, fun _ => ⟨b, off', rfl, fun j u hj => ?_⟩⟩, .inr ⟨b, off', rfl, h1, hc⟩, (fun h => by cases h), (fun x hx => h.small x (List.mem_of_mem_drop hx)), by have := h.len; omega⟩
  · simp [World.setCell, Array.getElem?_modify, hblock]
  · rw [valsB_get, List.getElem?_drop] at hj
    cases hx : bs[m + j]? with
    | none => rw [hx] at hj; cases hj
    | some x =>
      rw [hx] at hj
      cases hj
      have hj' := (List.getElem?_eq_some_iff.1 hx).1
      obtain ⟨b', o', e, hc'⟩ := h.row.2 (by omega)
      injection e with e
      injection e with e1 e2
      subst e1 e2
      rcases ho with rfl | rfl
      · rw [hcell, Nat.add_assoc]
        exact hc' _ _ (by rw [valsB_get, hx]; rfl)
      · omega
theorem Rf.cellAt {w : World} {B g : Nat} {A : Option Addr} {n c : Nat} {bs : List Nat} {bad : Bool} (h : Rf w B g A n c bs bad) (hn : 0 < n) : ∃ b off, A = some ⟨b, off, none⟩ ∧ n ≤ c ∧ ∀ j (hj : j < bs.length), w.cell? ⟨b, off + j, none⟩ = some (.int .u8 ((bs[j] : Nat) : Int)) := by
  obtain ⟨b, off, e, hc⟩ := h.row.2 hn
  rcases h.lies with ⟨_, h0, _⟩ | ⟨b', off', e', h1, h2⟩
  · omega
  · exact ⟨b, off, e, h2, fun j hj => hc j _ (by rw [valsB_get, List.getElem?_eq_getElem hj]; rfl)⟩

set_option maxHeartbeats 400000 in
theorem mfail_any (B g : Nat) (bs : List Nat) (bad : Bool) (w : World) (h : Rfx w B g bs bad) :
    Calls Try.prog 95 #[.pointer (some ⟨g, 0, none⟩)] w fun e w' => e = .returned (.tuple #[]) ∧ Rfx w' B g [] true ∧ OnlyG w w' g := by
  obtain ⟨A, n, c, h⟩ := h
  have c0 := h.c0
  have c1 := h.c1
  have f0 := h.f 0
  have f1 := h.f 1
  have HB := Lib.hid h.block
  have low := h.low
  clear h
  go_enter Try.func95, Try.ntmps95
  go_wp2_with fail
  refine bodyPost_end (v := .tuple #[]) (by simp [results, Try.results95, go_sem]) rfl ⟨rfl, ?_, (Only.set _ _ _ _).trans (Only.set _ _ _ _)⟩
  have hb := HB.out
  refine ⟨none, 0, 0, low, ?_, ⟨rfl, fun h => absurd h (by omega)⟩, .inl ⟨rfl, rfl, rfl⟩, (fun _ => rfl), (fun x hx => by cases hx), by omega⟩
  simp [World.setCell, Array.getElem?_modify, hb]
set_option maxHeartbeats 400000 in
theorem mdone_any (B g : Nat) (bs : List Nat) (bad : Bool) (w : World) (h : Rfx w B g bs bad) :
    Calls Try.prog 67 #[.pointer (some ⟨g, 0, none⟩)] w fun e w' => e = .returned (.bool (!bad && decide (bs = []))) ∧ w = w' := by
  obtain ⟨A, n, c, h⟩ := h
  have c0 := h.c0
  have c1 := h.c1
  have hl := h.blen
  have hn : decide (bs = []) = decide (n = 0) := decide_eq_decide.2 ⟨fun e => by rw [e] at hl; simpa using hl.symm, fun e => List.eq_nil_of_length_eq_zero (by omega)⟩
  rw [hn]
  clear h hl hn
  cases bad with
  | true =>
    go_enter Try.func67, Try.ntmps67
    go_wp2_with fail
    go_ret
    exact ⟨rfl, rfl⟩
  | false =>
    by_cases h0 : n = 0
    · subst h0
      go_enter Try.func67, Try.ntmps67
      go_wp2_with fail
      go_ret
      exact ⟨rfl, rfl⟩
    · have hp : 0 < n := Nat.pos_of_ne_zero h0
      have HD := Lib.hid (decide_eq_false h0)
      clear h0
      go_enter Try.func67, Try.ntmps67
      go_wp2_with fail
      go_ret
      exact ⟨by rw [HD.out]; exact ret_bool (by simp; omega), rfl⟩

set_option maxHeartbeats 400000 in
theorem mbyte_any (B g : Nat) (bs : List Nat) (bad : Bool) (w : World) (h : Rfx w B g bs bad) :
    Calls Try.prog 66 #[.pointer (some ⟨g, 0, none⟩)] w fun e w' => e = .returned (.int .u8 ((byteT bs : Nat) : Int)) ∧ Rfx w' B g (bs.drop 1) (bad || decide (bs.length = 0)) ∧ OnlyG w w' g := by
  have HF := Lib.hid (mfail_any B g bs bad w h)
  obtain ⟨A, n, c, h⟩ := h
  have c0 := h.c0
  have c1 := h.c1
  have hl := h.blen
  cases bad with
  | true =>
    obtain rfl : bs = [] := h.hbad rfl
    clear h hl
    go_enter Try.func66, Try.ntmps66
    go_wp2_with fail
    refine Calls.mono HF.out ?_
    rintro e w1 ⟨rfl, h1, h2⟩
    have H1 := Lib.hid h1
    have H2 := Lib.hid h2
    clear h1 h2
    go_wp2_with fail
    go_ret
    exact ⟨rfl, H1.out, H2.out⟩
  | false =>
    rcases bs with _ | ⟨x, t⟩
    · obtain rfl : n = 0 := by simpa using hl.symm
      clear h hl
      go_enter Try.func66, Try.ntmps66
      go_wp2_with fail
      refine Calls.mono HF.out ?_
      rintro e w1 ⟨rfl, h1, h2⟩
      have H1 := Lib.hid h1
      have H2 := Lib.hid h2
      clear h1 h2
      go_wp2_with fail
      go_ret
      exact ⟨rfl, H1.out, H2.out⟩
    · have hn : 0 < n := by simp at hl; omega
      obtain ⟨b, off, rfl, hnc, hcell⟩ := h.cellAt hn
      have k0 : w.cell? ⟨b, off, none⟩ = some (.int .u8 (x : Int)) := hcell 0 (by simp)
      have f0 := h.f 0
      have hA : (⟨b, off, none⟩ : Addr).add 1 = ⟨b, off + 1, none⟩ := addr_plus b off 1
      have HC := Lib.hid (fun off' c' => h.cut 1 hn off' c')
      have hlen := h.len
      clear h hl hcell HF
      go_enter Try.func66, Try.ntmps66
      go_wp2_with fail
      case inl =>
        have H1 := Lib.hid (HC.out off 0 (.inr (by omega)) (by omega))
        go_ret
        exact ⟨rfl, ⟨_, _, _, H1.out⟩, Only.set _ _ _ _⟩
      case inr =>
        have H1 := Lib.hid (HC.out (off + 1) (c - 1) (.inl rfl) (by omega))
        go_ret
        exact ⟨rfl, ⟨_, _, _, H1.out⟩, Only.set _ _ _ _⟩
end Go.Proofs.Ytejpjbmbcdgomaa

/- The document's count, read from its last group, and the program's, read from its first one: the same. -/
namespace Go.Proofs.Ytejpjbmbcdgomaa
set_option maxRecDepth 100000
open Go.RowKit

def valH : List Nat → Nat
  | [] => 0
  | b :: t => b % 128 + 128 * valH t
theorem valH_cntN : ∀ (k m : Nat), m < k → m < 18446744073709551616 → valH (cntN m) = m
  | 0, m, h, _ => absurd h (by omega)
  | k + 1, m, h, h64 => by
    by_cases hm : m < 128
    · rw [cntN_small m hm]; simp only [valH]; omega
    · rw [cntN_big m (by omega) h64]
      simp only [valH]
      rw [valH_cntN k (m / 128) (by omega) (by omega)]
      omega
/-- A count's bytes: all but the last one are 128 or more. -/
theorem cntN_shape : ∀ (k m : Nat), m < k → m < 18446744073709551616 → ∃ p q, cntN m = p ++ [q] ∧ q < 128 ∧ ∀ x ∈ p, 128 ≤ x
  | 0, m, h, _ => absurd h (by omega)
  | k + 1, m, h, h64 => by
    by_cases hm : m < 128
    · exact ⟨[], m, by rw [cntN_small m hm]; rfl, hm, fun x hx => by cases hx⟩
    · obtain ⟨p, q, e, hq, hp⟩ := cntN_shape k (m / 128) (by omega) (by omega)
      refine ⟨(m % 128 + 128) :: p, q, by rw [cntN_big m (by omega) h64, e]; rfl, hq, fun x hx => ?_⟩
      rw [List.mem_cons] at hx
      rcases hx with rfl | hx
      · omega
      · exact hp x hx
theorem rcnt_ways (f : Nat) : ∀ (i n : Nat) (bs : List Nat), rcnt f i n bs = (0, [], true) ∨ ∃ x rest, rcnt f i n bs = (x, rest, false) := by
  induction f with
  | zero => intro i n bs; exact .inr ⟨n, bs, by cases bs <;> rfl⟩
  | succ f ih =>
    intro i n bs
    rcases bs with _ | ⟨b, t⟩
    · exact .inl rfl
    · simp only [rcnt]
      by_cases hC : (i = 9 ∧ 1 < b) ∨ (0 < i ∧ b = 0)
      · rw [if_pos hC]; exact .inl rfl
      · rw [if_neg hC]
        by_cases hb : b < 128
        · rw [if_pos hb]; exact .inr ⟨_, _, rfl⟩
        · rw [if_neg hb]; exact ih _ _ _
theorem rcnt_yes (f : Nat) : ∀ (i n x : Nat) (bs rest : List Nat), f + i = 10 → 0 < f → (∀ b ∈ bs, b < 256) → rcnt f i n bs = (x, rest, false) → ∃ m, bs = cntN m ++ rest ∧ (0 < i → 0 < m) ∧ m < 2 ^ (64 - 7 * i) := by
  induction f with
  | zero => intro i n x bs rest _ h; exact absurd h (by omega)
  | succ f ih =>
    intro i n x bs rest hi _ hs h
    rcases bs with _ | ⟨b, t⟩
    · simp [rcnt] at h
    · simp only [rcnt] at h
      have hb256 := hs b (List.mem_cons_self ..)
      by_cases hC : (i = 9 ∧ 1 < b) ∨ (0 < i ∧ b = 0)
      · rw [if_pos hC] at h; cases h
      · rw [if_neg hC] at h
        by_cases hb : b < 128
        · rw [if_pos hb] at h
          injection h with _ h
          injection h with h _
          refine ⟨b, by rw [cntN_small b hb, ← h]; rfl, fun h0 => by omega, ?_⟩
          rcases Nat.lt_or_ge i 9 with h9 | h9
          · calc b < 2 ^ 7 := by omega
              _ ≤ 2 ^ (64 - 7 * i) := Nat.pow_le_pow_right (by omega) (by omega)
          · obtain rfl : i = 9 := by omega
            have : ¬ 1 < b := fun h => hC (.inl ⟨rfl, h⟩)
            show b < 2 ^ 1
            omega
        · rw [if_neg hb] at h
          have h9 : i < 9 := by
            rcases Nat.lt_or_ge i 9 with h9 | h9
            · exact h9
            · exact absurd (.inl ⟨by omega, by omega⟩) hC
          obtain ⟨m, e, h0, hm⟩ := ih (i + 1) _ x t rest (by omega) (by omega) (fun y hy => hs y (List.mem_cons_of_mem _ hy)) h
          have h0' := h0 (by omega)
          have hpow : (2 : Nat) ^ (64 - 7 * i) = 2 ^ (64 - 7 * (i + 1)) * 128 := by
            rw [show 64 - 7 * i = (64 - 7 * (i + 1)) + 7 by omega, Nat.pow_add]
          have hM : m * 128 + b % 128 < 2 ^ (64 - 7 * i) := by
            rw [hpow]
            have : (m + 1) * 128 ≤ 2 ^ (64 - 7 * (i + 1)) * 128 := Nat.mul_le_mul hm (Nat.le_refl _)
            omega
          refine ⟨m * 128 + b % 128, ?_, fun _ => by omega, hM⟩
          have h64 : m * 128 + b % 128 < 18446744073709551616 := by
            have : (2 : Nat) ^ (64 - 7 * i) ≤ 2 ^ 64 := Nat.pow_le_pow_right (by omega) (by omega)
            exact Nat.lt_of_lt_of_le hM this
          rw [cntN_big _ (by omega) h64, show (m * 128 + b % 128) / 128 = m by omega, show (m * 128 + b % 128) % 128 + 128 = b by omega, e]
          rfl
theorem rcount_yes {bs rest : List Nat} {x : Nat} (hs : ∀ b ∈ bs, b < 256) (h : rcount bs = (x, rest, false)) : bs = cntN x ++ rest ∧ x < 18446744073709551616 := by
  obtain ⟨m, e, _, hm⟩ := rcnt_yes 10 0 0 x bs rest rfl (by omega) hs h
  have h2 := rcount_cntN m hm rest
  rw [← e, h] at h2
  obtain rfl := (Prod.mk.inj h2).1
  exact ⟨e, hm⟩
/-- Where there is no last group there is no count. -/
theorem rcount_no {bs : List Nat} {k : Nat} (hs : ∀ b ∈ bs, b < 256) (hk : ∀ j (h : j < bs.length), j < k → 128 ≤ bs[j]) (hend : bs.length ≤ k ∨ 10 ≤ k) : rcount bs = (0, [], true) := by
  rcases rcnt_ways 10 0 0 bs with h | ⟨x, rest, h⟩
  · exact h
  · obtain ⟨e, hx⟩ := rcount_yes hs h
    obtain ⟨p, q, e2, hq, _⟩ := cntN_shape (x + 1) x (by omega) hx
    have hl := (cntN_length x hx).2
    rw [e2] at e hl
    simp at hl
    have hlt : p.length < bs.length := by rw [e]; simp
    have h1 := hk p.length hlt (by omega)
    have h2 : bs[p.length] = q := by
      have : bs[p.length]? = some q := by rw [e]; simp
      rw [List.getElem?_eq_getElem hlt] at this
      injection this
    omega
/-- Where the last group is the k-th one, the count is what is written so again. -/
theorem rcount_at {bs : List Nat} {k : Nat} (hs : ∀ b ∈ bs, b < 256) (hlt : k < bs.length) (hk : ∀ j (h : j < bs.length), j < k → 128 ≤ bs[j]) (hq : bs[k] < 128) (u : Nat) (hu : u = valH (bs.take (k + 1)) % 18446744073709551616) :
    rcount bs = if cntN u = bs.take (k + 1) then (u, bs.drop (k + 1), false) else (0, [], true) := by
  have hu64 : u < 18446744073709551616 := by omega
  by_cases he : cntN u = bs.take (k + 1)
  · rw [if_pos he]
    have := rcount_cntN u hu64 (bs.drop (k + 1))
    rw [he, List.take_append_drop] at this
    exact this
  · rw [if_neg he]
    rcases rcnt_ways 10 0 0 bs with h | ⟨x, rest, h⟩
    · exact h
    · obtain ⟨e, hx⟩ := rcount_yes hs h
      obtain ⟨p, q, e2, hq2, hp⟩ := cntN_shape (x + 1) x (by omega) hx
      have hpl : p.length < bs.length := by rw [e, e2]; simp
      have hbp : bs[p.length] = q := by
        have : bs[p.length]? = some q := by rw [e, e2]; simp
        rw [List.getElem?_eq_getElem hpl] at this
        injection this
      have hpk : p.length = k := by
        rcases Nat.lt_trichotomy p.length k with h1 | h1 | h1
        · have := hk p.length hpl h1; omega
        · exact h1
        · have hb : bs[k] = p[k] := by
            have : bs[k]? = some p[k] := by rw [e, e2, List.append_assoc, List.getElem?_append_left h1, List.getElem?_eq_getElem h1]
            rw [List.getElem?_eq_getElem hlt] at this
            injection this
          have := hp p[k] (List.getElem_mem h1)
          omega
      have ht : bs.take (k + 1) = cntN x := by
        have hl : (cntN x).length = k + 1 := by rw [e2]; simp [hpk]
        rw [e, ← hl, List.take_left]
      rw [ht, valH_cntN (x + 1) x (by omega) hx] at hu
      exact absurd (by rw [ht, hu, Nat.mod_eq_of_lt hx]) he
theorem valH_step (l : List Nat) (j : Nat) (h : j < l.length) : valH (l.drop j) = l[j] % 128 + 128 * valH (l.drop (j + 1)) := by
  rw [List.drop_eq_getElem_cons h]
  rfl
end Go.Proofs.Ytejpjbmbcdgomaa

/- The contract of the document's reader's Count. -/
namespace Go.Proofs.Ytejpjbmbcdgomaa
set_option maxRecDepth 100000
open Go.RowKit

theorem Rdv.drewN {w : World} {A : Option Addr} {n size : Nat} {ys : List Value} (h : Rdv w A n size ys) (k : Nat) : Rdv (w.drewN k) A n size ys := h.ext (fun _ _ => rfl)
theorem below_drewN' {B : Nat} {a w : World} (h : Below B a w) (n : Nat) : Below B a (w.drewN n) := ⟨h.os, h.tape, h.output, h.size, h.block⟩
theorem Rf.below {w w' : World} {B g : Nat} {A : Option Addr} {n c : Nat} {bs : List Nat} {bad : Bool} (h : Rf w B g A n c bs bad) (k : Below w.heap.size w w') : Rf w' B g A n c bs bad :=
  h.stays (k.block g h.lt) (fun j hj => k.block j (by have := h.lt; have := h.low; omega))
set_option maxHeartbeats 400000 in
theorem mcount_bad (B g : Nat) (bs : List Nat) (w : World) (h : Rfx w B g bs true) :
    Calls Try.prog 64 #[.pointer (some ⟨g, 0, none⟩)] w fun e w' => e = .returned (.int .u64 0) ∧ Rfx w' B g [] true ∧ OnlyG w w' g := by
  have HF := Lib.hid (mfail_any B g bs true w h)
  obtain rfl := h.empty
  obtain ⟨A, n, c, h⟩ := h
  obtain rfl : n = 0 := by simpa using h.blen.symm
  have c0 := h.c0
  have c1 := h.c1
  clear h
  go_enter Try.func64, Try.ntmps64
  go_wp2_with fail
  refine wp_loop_rounds 1 ?_
  rw [rounds_succ]
  go_wp2_with fail
  refine Calls.mono HF.out ?_
  rintro e w1 ⟨rfl, h1, h2⟩
  have H1 := Lib.hid h1
  have H2 := Lib.hid h2
  clear h1 h2
  go_wp2_with fail
  go_ret
  exact ⟨rfl, H1.out, H2.out⟩
set_option maxHeartbeats 2000000 in
theorem mcount_good (B g : Nat) (bs : List Nat) (w : World) (h : Rfx w B g bs false) :
    Calls Try.prog 64 #[.pointer (some ⟨g, 0, none⟩)] w fun e w' => e = .returned (.int .u64 (((rcount bs).1 : Nat) : Int)) ∧ Rfx w' B g (rcount bs).2.1 (rcount bs).2.2 ∧ OnlyG w w' g := by
  have HF := Lib.hid (fun w (h : Rfx w B g bs false) => mfail_any B g bs false w h)
  have hsm := h.small
  obtain ⟨A, n, c, h⟩ := h
  have hl := h.blen
  have hlen := h.len
  have c0 := h.c0
  have c1 := h.c1
  have HH := Lib.hid h
  have HC := Lib.hid (fun hn => h.cellAt hn)
  have HL := Lib.hid hl
  have HNO := Lib.hid (fun k hk hend => rcount_no (k := k) hsm hk hend)
  have HAT := Lib.hid (fun k hlt hk hq u hu => rcount_at (k := k) hsm hlt hk hq u hu)
  have HSM := Lib.hid hsm
  obtain ⟨R, hR⟩ : ∃ R, R = rcount bs := ⟨_, rfl⟩
  rw [← hR] at HNO HAT ⊢
  clear h hl hR hsm
  go_enter Try.func64, Try.ntmps64
  go_wp2_with fail
  go_loop [3] (fun i => ∃ k : Nat, i = .int .i64 (k : Int) ∧ k ≤ n ∧ k ≤ 10 ∧ ∀ j (h : j < bs.length), j < k → 128 ≤ bs[j]) (fun i => 10 - (intOf i).toNat)
  case atStart => exact ⟨0, rfl, by omega, by omega, fun j _ h => absurd h (by omega)⟩
  case round =>
    obtain ⟨k, rfl, hkn, hk10, hall⟩ := hrel
    have HALL := Lib.hid hall
    clear hall
    by_cases hlt : k < n
    · by_cases h10 : k < 10
      · obtain ⟨b, off, rfl, hnc, hcell⟩ := HC.out (by omega)
        have hk0 := hcell k (by rw [HL.out]; exact hlt)
        have HCELL := Lib.hid hcell
        obtain ⟨x, hx⟩ : ∃ x, x = bs[k]'(by rw [HL.out]; exact hlt) := ⟨_, rfl⟩
        rw [← hx] at hk0
        have HX := Lib.hid hx
        clear hx hcell
        by_cases hge : 128 ≤ x
        · go_wp2_with fail
          go_round
          case rel =>
            refine ⟨k + 1, by go_num, by omega, by omega, fun j hj hjk => ?_⟩
            rcases Nat.lt_or_ge j k with h1 | h1
            · exact HALL.out j hj h1
            · obtain rfl : j = k := by omega
              rw [← HX.out]; exact hge
          case measure => simp [intOf]; omega
        · go_wp2_with fail
          clear hk0
          obtain ⟨l, hlt2⟩ : ∃ l, l = bs.take (k + 1) := ⟨_, rfl⟩
          have hll : l.length = k + 1 := by rw [hlt2, List.length_take, HL.out]; omega
          have HLT := Lib.hid hlt2
          have HLL := Lib.hid hll
          have hcl : ∀ j (h : j < l.length), w.cell? ⟨b, off + j, none⟩ = some (.int .u8 ((l[j] : Nat) : Int)) ∧ l[j] < 256 := fun j h => by
            have hj : j < bs.length := by rw [HL.out]; omega
            have e : l[j] = bs[j] := by simp [hlt2]
            rw [e]
            exact ⟨HCELL.out j hj, HSM.out _ (List.getElem_mem hj)⟩
          have HCL := Lib.hid hcl
          clear hlt2 hll hcl
          go_loop [4, 5] (fun u i => ∃ j : Nat, i = .int .i64 ((j : Int) - 1) ∧ j ≤ k + 1 ∧ u = .int .u64 ((valH (l.drop j) % 18446744073709551616 : Nat) : Int)) (fun _ i => (intOf i + 1).toNat)
          case atStart => exact ⟨k + 1, by go_num, by omega, by rw [List.drop_eq_nil_of_le (by rw [HLL.out]; omega)]; rfl⟩
          case round =>
            obtain ⟨j, rfl, hj, rfl⟩ := hrel
            by_cases hj0 : 0 < j
            · obtain ⟨i, rfl⟩ : ∃ i, j = i + 1 := ⟨j - 1, by omega⟩
              have hil : i < l.length := by rw [HLL.out]; omega
              obtain ⟨hci, hb256⟩ := HCL.out i hil
              obtain ⟨y, hy⟩ : ∃ y, y = l[i] := ⟨_, rfl⟩
              have hst := valH_step l i hil
              rw [← hy] at hci hb256 hst
              obtain ⟨v, hv⟩ : ∃ v, v = valH (l.drop (i + 1)) % 18446744073709551616 := ⟨_, rfl⟩
              have hst2 : valH (l.drop i) % 18446744073709551616 = (128 * v + y % 128) % 18446744073709551616 := by rw [hst, hv]; omega
              rw [← hv]
              have hv64 : v < 18446744073709551616 := by omega
              have HST := Lib.hid hst2
              clear hst hst2 hy hv
              go_wp2_with fail
              refine ⟨⟨i, rfl, by omega, ?_⟩, by simp [intOf]⟩
              rw [HST.out, IntKind.wrap_u64, IntKind.wrap_u64]
              congr 1
              omega
            · obtain rfl : j = 0 := by omega
              rw [List.drop_zero]
              have hat := HAT.out k (by rw [HL.out]; exact hlt) HALL.out (by rw [← HX.out]; omega) _ rfl
              rw [← HLT.out] at hat
              obtain ⟨u, hu⟩ : ∃ u, u = valH l % 18446744073709551616 := ⟨_, rfl⟩
              rw [← hu] at hat ⊢
              have hu64 : u < 18446744073709551616 := by omega
              have HAT2 := Lib.hid hat
              have HRC := Lib.hid (refCount_any u hu64 w)
              have hls : ∀ x ∈ l, x < 256 := fun x hx => HSM.out x (by rw [HLT.out] at hx; exact List.mem_of_mem_take hx)
              have HEQ := Lib.hid (strN_beq (cntN u) l (cntN_small_all u) hls)
              clear hu hat hls
              go_wp2_with fail
              refine Calls.mono HRC.out ?_
              rintro e w1 ⟨v, rfl, h1, h2⟩
              obtain ⟨A1, k1, rfl, h3, h4, h5⟩ := h1.rdv
              have H2 := Lib.hid h2
              have hh1 := HH.out.below h2
              have HH1 := Lib.hid hh1
              have c0' := hh1.c0
              have f0' := hh1.f 0
              have e1 := fun nq => run_str (w1.drewN nq) A1 _ k1 _ (h3.drewN nq)
              have hrl : Rdv w1 (some ⟨b, off, none⟩) (k + 1) 1 (valsB l) := ⟨by rw [valsB_length, HLL.out]; omega, fun _ => ⟨b, off, rfl, fun j v hj => by
                rw [valsB_get] at hj
                cases hx : l[j]? with
                | none => rw [hx] at hj; cases hj
                | some z =>
                  rw [hx] at hj
                  cases hj
                  have hjl := (List.getElem?_eq_some_iff.1 hx).1
                  rw [stays_b h2 _ (World.block_lt_of_cell? _ _ (HCL.out j hjl).1), (HCL.out j hjl).1]
                  rw [List.getElem?_eq_getElem hjl] at hx
                  injection hx with hx
                  rw [hx]⟩⟩
              have e2 := fun nq => run_str (w1.drewN nq) (some ⟨b, off, none⟩) (k + 1) c _ (hrl.drewN nq)
              obtain ⟨N, hN⟩ : ∃ N, N = (cntN u).length := ⟨_, rfl⟩
              obtain ⟨s1, hs1⟩ : ∃ s1, s1 = strN (cntN u) := ⟨_, rfl⟩
              obtain ⟨s2, hs2⟩ : ∃ s2, s2 = strN l := ⟨_, rfl⟩
              rw [← hs1, ← hs2] at HEQ
              rw [← hs1, ← hN] at e1
              rw [← hs2] at e2
              rw [← hN]
              clear hN hs1 hs2 h1 h2 h3 h4 h5 hh1 hrl c0
              have HCUT := Lib.hid (fun off' c' => HH1.out.cut (k + 1) (by omega) off' c')
              have HO1 := Lib.hid (show OnlyG w w1 g from Only.of_below H2.out)
              have q1 : IntKind.i64.wrap ((k : Int) + 1) = (k : Int) + 1 := IntWalk.i64_in _ (by omega)
              have q2 : (0 : Int) ≤ (k : Int) + 1 := by omega
              have q3 : ((k : Int) + 1).toNat = k + 1 := by omega
              have q4 : (⟨b, off, none⟩ : Addr).add (k + 1) = ⟨b, off + (k + 1), none⟩ := addr_plus b off (k + 1)
              have Q4 := Lib.hid q4
              clear q4
              by_cases he : cntN u = l
              · have hse : (s1.toList == s2.toList) = true := by have := HEQ.out; rw [decide_eq_true he] at this; exact this
                have hR := HAT2.out
                rw [if_pos he] at hR
                have HR := Lib.hid hR
                clear he hR
                go_wp2_with fail
                go_quiet (fail)
                clear q1 q2 q3 e1 e2
                have q4 := Q4.out
                go_wp2_with fail
                case inl =>
                  have H1 := Lib.hid (HCUT.out off 0 (.inr (by omega)) (by omega))
                  go_ret
                  rw [HR.out]
                  exact ⟨rfl, ⟨_, _, _, H1.out.stays rfl (fun _ _ => rfl)⟩, (HO1.out.trans (Only.of_below (below_drewN' (Below.refl _ _) nq))).trans (Only.set _ _ _ _)⟩
                case inr =>
                  have H1 := Lib.hid (HCUT.out (off + (k + 1)) (c - (k + 1)) (.inl rfl) (by omega))
                  go_ret
                  rw [HR.out]
                  exact ⟨rfl, ⟨_, _, _, H1.out.stays rfl (fun _ _ => rfl)⟩, (HO1.out.trans (Only.of_below (below_drewN' (Below.refl _ _) nq))).trans (Only.set _ _ _ _)⟩
              · have hse : (s1.toList == s2.toList) = false := by have := HEQ.out; rw [decide_eq_false he] at this; exact this
                have hR := HAT2.out
                rw [if_neg he] at hR
                have HR := Lib.hid hR
                clear he hR
                go_wp2_with fail
                go_quiet (fail)
                clear q1 q2 q3 e1 e2
                have HF2 := Lib.hid (HF.out (w1.drewN nq) ⟨_, _, _, HH1.out.stays rfl (fun _ _ => rfl)⟩)
                go_wp2_with fail
                refine Calls.mono HF2.out ?_
                rintro e w3 ⟨rfl, h1, h2⟩
                have H1 := Lib.hid h1
                have H3 := Lib.hid h2
                clear h1 h2
                go_wp2_with fail
                go_ret
                rw [HR.out]
                exact ⟨rfl, H1.out, (HO1.out.trans (Only.of_below (below_drewN' (Below.refl _ _) nq))).trans H3.out⟩
      · have HNO2 := Lib.hid (HNO.out k HALL.out (.inr (by omega)))
        have HF2 := Lib.hid (HF.out w ⟨_, _, _, HH.out⟩)
        go_wp2_with fail
        refine Calls.mono HF2.out ?_
        rintro e w1 ⟨rfl, h1, h2⟩
        have H1 := Lib.hid h1
        have H2 := Lib.hid h2
        clear h1 h2
        go_wp2_with fail
        go_ret
        rw [HNO2.out]
        exact ⟨rfl, H1.out, H2.out⟩
    · have HNO2 := Lib.hid (HNO.out k HALL.out (.inl (by rw [HL.out]; omega)))
      have HF2 := Lib.hid (HF.out w ⟨_, _, _, HH.out⟩)
      go_wp2_with fail
      refine Calls.mono HF2.out ?_
      rintro e w1 ⟨rfl, h1, h2⟩
      have H1 := Lib.hid h1
      have H2 := Lib.hid h2
      clear h1 h2
      go_wp2_with fail
      go_ret
      rw [HNO2.out]
      exact ⟨rfl, H1.out, H2.out⟩
theorem rcount_nil : rcount [] = (0, [], true) := rfl
theorem mcount_any (B g : Nat) (bs : List Nat) (bad : Bool) (w : World) (h : Rfx w B g bs bad) :
    Calls Try.prog 64 #[.pointer (some ⟨g, 0, none⟩)] w fun e w' => e = .returned (.int .u64 (((rcount bs).1 : Nat) : Int)) ∧ Rfx w' B g (rcount bs).2.1 (rcount bs).2.2 ∧ OnlyG w w' g := by
  cases bad with
  | true =>
    obtain rfl := h.empty
    rw [rcount_nil]
    exact mcount_bad B g [] w h
  | false => exact mcount_good B g bs w h
end Go.Proofs.Ytejpjbmbcdgomaa
