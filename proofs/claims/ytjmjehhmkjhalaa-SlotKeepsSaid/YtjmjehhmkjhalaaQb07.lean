/- WCodec, WRf: put together. -/
import Derived.Test.YtjmjehhmkjhalaaQb06
/- Counts and numbers, there and back. -/
namespace Go.Proofs.Ytjmjehhmkjhalaa
set_option maxRecDepth 100000
open Go.RowKit

theorem cntN_small (n : Nat) (h : n < 128) : cntN n = [n] := by
  have key : ∀ y : Fin 128, cntN y.val = [y.val] := by decide +kernel
  exact key ⟨n, h⟩
theorem preN_cons (n k : Nat) : preN n (k + 1) = (n % 128 + 128) :: preN (n / 128) k := by
  unfold preN
  rw [List.range_succ_eq_map, List.map_cons, List.map_map]
  congr 1
  · simp
  · refine List.map_congr_left fun i _ => ?_
    simp only [Function.comp]
    rw [Nat.pow_succ, Nat.mul_comm, Nat.div_div_eq_div_mul]
theorem cntN_big (n : Nat) (h : 128 ≤ n) (hn : n < 18446744073709551616) : cntN n = (n % 128 + 128) :: cntN (n / 128) := by
  have hs : sizeN n = sizeN (n / 128) + 1 := by
    have h1 := Lib.bitLen_shift 7 n h hn
    have h2 : 1 ≤ Lib.bitLen (n / 128) := (bitLen_spec (n / 128 + 1) (n / 128) (by omega) (by omega) (by omega)).1
    unfold sizeN
    rw [h1, show (2 : Nat) ^ 7 = 128 from rfl]
    omega
  have h1 : 1 ≤ sizeN (n / 128) := by unfold sizeN; omega
  obtain ⟨s, e⟩ : ∃ s, sizeN (n / 128) = s + 1 := ⟨sizeN (n / 128) - 1, by omega⟩
  unfold cntN
  rw [hs, e, show s + 1 + 1 - 1 = s + 1 from rfl, show s + 1 - 1 = s from rfl, preN_cons, List.cons_append]
  congr 3
  rw [Nat.pow_succ, Nat.mul_comm, Nat.div_div_eq_div_mul]
theorem rcnt_cntN (f : Nat) : ∀ (i acc m : Nat) (rest : List Nat), f + i = 10 → m < 2 ^ (64 - 7 * i) → (0 < i → 0 < m) → (0 < f) → rcnt f i acc (cntN m ++ rest) = (acc + m * 128 ^ i, rest, false) := by
  induction f with
  | zero => intro i acc m rest _ _ _ h; exact absurd h (by omega)
  | succ f ih =>
    intro i acc m rest hi hm hp _
    have h64 : m < 18446744073709551616 := Nat.lt_of_lt_of_le hm (Nat.le_trans (Nat.pow_le_pow_right (by omega) (show 64 - 7 * i ≤ 64 by omega)) (by decide))
    have h9 : i = 9 → m < 2 := fun h => by subst h; exact hm
    by_cases hs : m < 128
    · rw [cntN_small m hs]
      show (if (i = 9 ∧ 1 < m) ∨ (0 < i ∧ m = 0) then (0, [], true) else if m < 128 then (acc + m % 128 * 128 ^ i, rest, false) else _) = _
      rw [if_neg (by omega), if_pos hs, Nat.mod_eq_of_lt hs]
    · rw [cntN_big m (by omega) h64]
      show (if (i = 9 ∧ 1 < m % 128 + 128) ∨ (0 < i ∧ m % 128 + 128 = 0) then (0, [], true) else if m % 128 + 128 < 128 then _ else rcnt f (i + 1) (acc + (m % 128 + 128) % 128 * 128 ^ i) (cntN (m / 128) ++ rest)) = _
      rw [if_neg (by omega), if_neg (by omega)]
      have hi9 : i < 9 := by
        rcases Nat.lt_or_ge i 9 with h | h
        · exact h
        · have := h9 (by omega); omega
      rw [ih (i + 1) _ (m / 128) rest (by omega) ?_ (fun _ => by omega) (by omega)]
      · congr 1
        have e : (128 : Nat) ^ (i + 1) = 128 * 128 ^ i := by rw [Nat.pow_succ, Nat.mul_comm]
        rw [show (m % 128 + 128) % 128 = m % 128 by omega, e, Nat.add_assoc, ← Nat.mul_assoc, ← Nat.add_mul]
        congr 2
        omega
      · have e : 64 - 7 * i = (64 - 7 * (i + 1)) + 7 := by omega
        rw [e, Nat.pow_add] at hm
        rw [Nat.div_lt_iff_lt_mul (by omega)]
        exact hm
theorem rcount_cntN (n : Nat) (h : n < 18446744073709551616) (rest : List Nat) : rcount (cntN n ++ rest) = (n, rest, false) := by
  unfold rcount
  rw [rcnt_cntN 10 0 0 n rest rfl h (fun h => absurd h (by omega)) (by omega)]
  simp
theorem cntN_small_all (n : Nat) : ∀ x ∈ cntN n, x < 256 := by
  intro x hx
  unfold cntN preN at hx
  rw [List.mem_append, List.mem_map] at hx
  rcases hx with ⟨i, _, rfl⟩ | hx
  · omega
  · rw [List.mem_singleton] at hx; omega
end Go.Proofs.Ytjmjehhmkjhalaa

/- The document's reader in memory: it reads bytes that came in. The contracts of fail, Byte, Flag, Done. -/
namespace Go.Proofs.Ytjmjehhmkjhalaa
set_option maxRecDepth 100000
open Go.RowKit

/-- The document's reader: its block, the bytes that are left of what came in. -/
structure Rf (w : World) (B g : Nat) (A : Option Addr) (n c : Nat) (bs : List Nat) (bad : Bool) : Prop where
  low : B ≤ g
  block : w.heap[g]? = some (.cells #[.slice A n c, .bool bad] 179 (0, 0))
  row : Rdv w A n 1 (valsB bs)
  lies : (A = none ∧ n = 0 ∧ c = 0) ∨ ∃ b off, A = some ⟨b, off, none⟩ ∧ b < B ∧ n ≤ c
  hbad : bad = true → bs = []
  small : ∀ x ∈ bs, x < 256
  len : n ≤ 140737488355328
def Rfx (w : World) (B g : Nat) (bs : List Nat) (bad : Bool) : Prop := ∃ A n c, Rf w B g A n c bs bad
theorem Rf.lt {w : World} {B g : Nat} {A : Option Addr} {n c : Nat} {bs : List Nat} {bad : Bool} (h : Rf w B g A n c bs bad) : g < w.heap.size := (Array.getElem?_eq_some_iff.1 h.block).1
theorem Rf.blen {w : World} {B g : Nat} {A : Option Addr} {n c : Nat} {bs : List Nat} {bad : Bool} (h : Rf w B g A n c bs bad) : bs.length = n := by have := h.row.1; rw [valsB_length] at this; omega
theorem Rf.c0 {w : World} {B g : Nat} {A : Option Addr} {n c : Nat} {bs : List Nat} {bad : Bool} (h : Rf w B g A n c bs bad) : w.cell? ⟨g, 0, none⟩ = some (.slice A n c) := cell_of_row w g 0 _ 179 (0, 0) h.block
theorem Rf.c1 {w : World} {B g : Nat} {A : Option Addr} {n c : Nat} {bs : List Nat} {bad : Bool} (h : Rf w B g A n c bs bad) : w.cell? ⟨g, 1, none⟩ = some (.bool bad) := cell_of_row w g 1 _ 179 (0, 0) h.block
theorem Rf.f {w : World} {B g : Nat} {A : Option Addr} {n c : Nat} {bs : List Nat} {bad : Bool} (h : Rf w B g A n c bs bad) (o : Nat) : w.frozen? ⟨g, o, none⟩ = false := by
  have := h.block
  simp [World.frozen?, this]
/-- It stands where its block stands and what came in. -/
theorem Rf.stays {w w' : World} {B g : Nat} {A : Option Addr} {n c : Nat} {bs : List Nat} {bad : Bool} (h : Rf w B g A n c bs bad) (hg : w'.heap[g]? = w.heap[g]?) (hk : ∀ k, k < B → w'.heap[k]? = w.heap[k]?) : Rf w' B g A n c bs bad := by
  refine ⟨h.low, hg.trans h.block, ⟨h.row.1, fun hn => ?_⟩, h.lies, h.hbad, h.small, h.len⟩
  obtain ⟨b, off, e, hc⟩ := h.row.2 hn
  rcases h.lies with ⟨_, h0, _⟩ | ⟨b', off', e', h1, h2⟩
  · omega
  · rw [e] at e'
    injection e' with e'
    injection e' with e1 e2 e3
    subst e1
    exact ⟨b, off, e, fun j u hj => by rw [← hc j u hj]; exact World.cell?_of_block (hk b h1)⟩
theorem Rfx.stays {w w' : World} {B g : Nat} {bs : List Nat} {bad : Bool} (h : Rfx w B g bs bad) (hg : w'.heap[g]? = w.heap[g]?) (hk : ∀ k, k < B → w'.heap[k]? = w.heap[k]?) : Rfx w' B g bs bad := by
  obtain ⟨A, n, c, h⟩ := h
  exact ⟨A, n, c, h.stays hg hk⟩
theorem Rfx.small {w : World} {B g : Nat} {bs : List Nat} {bad : Bool} (h : Rfx w B g bs bad) : ∀ x ∈ bs, x < 256 := by
  obtain ⟨A, n, c, h⟩ := h
  exact h.small
theorem Rfx.empty {w : World} {B g : Nat} {bs : List Nat} (h : Rfx w B g bs true) : bs = [] := by
  obtain ⟨A, n, c, h⟩ := h
  exact h.hbad rfl
theorem Rfx.len {w : World} {B g : Nat} {bs : List Nat} {bad : Bool} (h : Rfx w B g bs bad) : bs.length ≤ 140737488355328 := by
  obtain ⟨A, n, c, h⟩ := h
  rw [h.blen]; exact h.len
/-- Only the reader's block is changed. -/
abbrev OnlyG (w w' : World) (g : Nat) : Prop := Only w w' (.pointer (some ⟨g, 0, none⟩))
theorem OnlyG.at {w w' : World} {g : Nat} (h : OnlyG w w' g) {k : Nat} (hk : k < w.heap.size) (hne : k ≠ g) : w'.heap[k]? = w.heap[k]? :=
  h.block k hk (fun he => by injection he with he; injection he with he; injection he with he; exact hne he.symm)
/-- The first m bytes are taken. -/
theorem Rf.cut {w : World} {B g b off n c : Nat} {bs : List Nat} (h : Rf w B g (some ⟨b, off, none⟩) n c bs false) (m : Nat) (hmn : m ≤ n) (off' c' : Nat) (ho : off' = off + m ∨ n = m) (hc : n - m ≤ c') :
    Rf (w.setCell ⟨g, 0, none⟩ (.slice (some ⟨b, off', none⟩) (n - m) c')) B g (some ⟨b, off', none⟩) (n - m) c' (bs.drop m) false := by
  have hl := h.blen
  have h1 : b < B := by
    rcases h.lies with ⟨h0, _⟩ | ⟨b', off', e', h1, h2⟩
    · cases h0
    · injection e' with e'; injection e' with e1; omega
  have hbg : b ≠ g := by have := h.low; omega
  have hcell : ∀ o, (w.setCell ⟨g, 0, none⟩ (.slice (some ⟨b, off', none⟩) (n - m) c')).cell? ⟨b, o, none⟩ = w.cell? ⟨b, o, none⟩ := fun o => World.cell?_of_block (Deep.blk_setCell_other w ⟨g, 0, none⟩ _ b hbg)
  have hblock := h.block
  refine ⟨h.low, ?_, ⟨by rw [valsB_length, List.length_drop]; omega, fun _ => ⟨b, off', rfl, fun j u hj => ?_⟩⟩, .inr ⟨b, off', rfl, h1, hc⟩, (fun h => by cases h), (fun x hx => h.small x (List.mem_of_mem_drop hx)), by have := h.len; omega⟩
  · simp [World.setCell, Array.getElem?_modify, hblock]
  · rw [valsB_get, List.getElem?_drop] at hj
    cases hx : bs[m + j]? with
    | none => rw [hx] at hj; cases hj
    | some x =>
      rw [hx] at hj
      cases hj
      have hj' := (List.getElem?_eq_some_iff.1 hx).1
      obtain ⟨b', o', e, hc'⟩ := h.row.2 (by omega)
      injection e with e
      injection e with e1 e2
      subst e1 e2
      rcases ho with rfl | rfl
      · rw [hcell, Nat.add_assoc]
        exact hc' _ _ (by rw [valsB_get, hx]; rfl)
      · omega
theorem Rf.cellAt {w : World} {B g : Nat} {A : Option Addr} {n c : Nat} {bs : List Nat} {bad : Bool} (h : Rf w B g A n c bs bad) (hn : 0 < n) : ∃ b off, A = some ⟨b, off, none⟩ ∧ n ≤ c ∧ ∀ j (hj : j < bs.length), w.cell? ⟨b, off + j, none⟩ = some (.int .u8 ((bs[j] : Nat) : Int)) := by
  obtain ⟨b, off, e, hc⟩ := h.row.2 hn
  rcases h.lies with ⟨_, h0, _⟩ | ⟨b', off', e', h1, h2⟩
  · omega
  · exact ⟨b, off, e, h2, fun j hj => hc j _ (by rw [valsB_get, List.getElem?_eq_getElem hj]; rfl)⟩

set_option maxHeartbeats 400000 in
theorem mfail_any (B g : Nat) (bs : List Nat) (bad : Bool) (w : World) (h : Rfx w B g bs bad) :
    Calls Try.prog 142 #[.pointer (some ⟨g, 0, none⟩)] w fun e w' => e = .returned (.tuple #[]) ∧ Rfx w' B g [] true ∧ OnlyG w w' g := by
  obtain ⟨A, n, c, h⟩ := h
  have c0 := h.c0
  have c1 := h.c1
  have f0 := h.f 0
  have f1 := h.f 1
  have HB := Lib.hid h.block
  have low := h.low
  clear h
  go_enter Try.func142, Try.ntmps142
  go_wp2_with fail
  refine bodyPost_end (v := .tuple #[]) (by simp [results, Try.results142, go_sem]) rfl ⟨rfl, ?_, (Only.set _ _ _ _).trans (Only.set _ _ _ _)⟩
  have hb := HB.out
  refine ⟨none, 0, 0, low, ?_, ⟨rfl, fun h => absurd h (by omega)⟩, .inl ⟨rfl, rfl, rfl⟩, (fun _ => rfl), (fun x hx => by cases hx), by omega⟩
  simp [World.setCell, Array.getElem?_modify, hb]
set_option maxHeartbeats 400000 in
theorem mdone_any (B g : Nat) (bs : List Nat) (bad : Bool) (w : World) (h : Rfx w B g bs bad) :
    Calls Try.prog 94 #[.pointer (some ⟨g, 0, none⟩)] w fun e w' => e = .returned (.bool (!bad && decide (bs = []))) ∧ w = w' := by
  obtain ⟨A, n, c, h⟩ := h
  have c0 := h.c0
  have c1 := h.c1
  have hl := h.blen
  have hn : decide (bs = []) = decide (n = 0) := decide_eq_decide.2 ⟨fun e => by rw [e] at hl; simpa using hl.symm, fun e => List.eq_nil_of_length_eq_zero (by omega)⟩
  rw [hn]
  clear h hl hn
  cases bad with
  | true =>
    go_enter Try.func94, Try.ntmps94
    go_wp2_with fail
    go_ret
    exact ⟨rfl, rfl⟩
  | false =>
    by_cases h0 : n = 0
    · subst h0
      go_enter Try.func94, Try.ntmps94
      go_wp2_with fail
      go_ret
      exact ⟨rfl, rfl⟩
    · have hp : 0 < n := Nat.pos_of_ne_zero h0
      have HD := Lib.hid (decide_eq_false h0)
      clear h0
      go_enter Try.func94, Try.ntmps94
      go_wp2_with fail
      go_ret
      exact ⟨by rw [HD.out]; exact ret_bool (by simp; omega), rfl⟩

set_option maxHeartbeats 400000 in
theorem mbyte_any (B g : Nat) (bs : List Nat) (bad : Bool) (w : World) (h : Rfx w B g bs bad) :
    Calls Try.prog 125 #[.pointer (some ⟨g, 0, none⟩)] w fun e w' => e = .returned (.int .u8 ((byteT bs : Nat) : Int)) ∧ Rfx w' B g (bs.drop 1) (bad || decide (bs.length = 0)) ∧ OnlyG w w' g := by
  have HF := Lib.hid (mfail_any B g bs bad w h)
  obtain ⟨A, n, c, h⟩ := h
  have c0 := h.c0
  have c1 := h.c1
  have hl := h.blen
  cases bad with
  | true =>
    obtain rfl : bs = [] := h.hbad rfl
    clear h hl
    go_enter Try.func125, Try.ntmps125
    go_wp2_with fail
    refine Calls.mono HF.out ?_
    rintro e w1 ⟨rfl, h1, h2⟩
    have H1 := Lib.hid h1
    have H2 := Lib.hid h2
    clear h1 h2
    go_wp2_with fail
    go_ret
    exact ⟨rfl, H1.out, H2.out⟩
  | false =>
    rcases bs with _ | ⟨x, t⟩
    · obtain rfl : n = 0 := by simpa using hl.symm
      clear h hl
      go_enter Try.func125, Try.ntmps125
      go_wp2_with fail
      refine Calls.mono HF.out ?_
      rintro e w1 ⟨rfl, h1, h2⟩
      have H1 := Lib.hid h1
      have H2 := Lib.hid h2
      clear h1 h2
      go_wp2_with fail
      go_ret
      exact ⟨rfl, H1.out, H2.out⟩
    · have hn : 0 < n := by simp at hl; omega
      obtain ⟨b, off, rfl, hnc, hcell⟩ := h.cellAt hn
      have k0 : w.cell? ⟨b, off, none⟩ = some (.int .u8 (x : Int)) := hcell 0 (by simp)
      have f0 := h.f 0
      have hA : (⟨b, off, none⟩ : Addr).add 1 = ⟨b, off + 1, none⟩ := addr_plus b off 1
      have HC := Lib.hid (fun off' c' => h.cut 1 hn off' c')
      have hlen := h.len
      clear h hl hcell HF
      go_enter Try.func125, Try.ntmps125
      go_wp2_with fail
      case inl =>
        have H1 := Lib.hid (HC.out off 0 (.inr (by omega)) (by omega))
        go_ret
        exact ⟨rfl, ⟨_, _, _, H1.out⟩, Only.set _ _ _ _⟩
      case inr =>
        have H1 := Lib.hid (HC.out (off + 1) (c - 1) (.inl rfl) (by omega))
        go_ret
        exact ⟨rfl, ⟨_, _, _, H1.out⟩, Only.set _ _ _ _⟩
end Go.Proofs.Ytjmjehhmkjhalaa
