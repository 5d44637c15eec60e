/- WRefW, RPut, WCodec: put together. -/
import Derived.Test.YtejpjbmbcdgomaaPe34
import Derived.Test.YtejpjbmbcdgomaaPe31
import Derived.Test.YtejpjbmbcdgomaaPe24
/- The contracts of the document's writer: Count, Num, Flag, Bytes. -/
namespace Go.Proofs.Ytejpjbmbcdgomaa
set_option maxRecDepth 100000
open Go.RowKit

theorem bitLen_spec : ∀ (n x : Nat), x < n → x ≠ 0 → x < 2 ^ 64 → 1 ≤ Lib.bitLen x ∧ 2 ^ (Lib.bitLen x - 1) ≤ x ∧ x < 2 ^ Lib.bitLen x
  | 0, x, h, _, _ => absurd h (by omega)
  | n + 1, x, h, h0, h64 => by
    rw [Lib.bitLen_half x h0 h64]
    by_cases h1 : x / 2 = 0
    · have hx : x = 1 := by omega
      subst hx
      decide
    · obtain ⟨i1, i2, i3⟩ := bitLen_spec n (x / 2) (by omega) h1 (by omega)
      obtain ⟨k, hk⟩ : ∃ k, Lib.bitLen (x / 2) = k + 1 := ⟨Lib.bitLen (x / 2) - 1, by omega⟩
      rw [hk] at i2 i3 ⊢
      refine ⟨by omega, ?_, ?_⟩
      · have e : 1 + (k + 1) - 1 = k + 1 := by omega
        rw [e, Nat.pow_succ]
        have e2 : k + 1 - 1 = k := by omega
        rw [e2] at i2
        omega
      · have e : 1 + (k + 1) = (k + 1) + 1 := by omega
        rw [e, Nat.pow_succ]
        omega
/-- A count's size: the least number of groups that hold it. -/
theorem size_spec (n : Nat) (h : n < 18446744073709551616) : 1 ≤ sizeN n ∧ sizeN n ≤ 10 ∧ n < 128 ^ sizeN n ∧ (2 ≤ sizeN n → 128 ^ (sizeN n - 1) ≤ n) := by
  have hl := Lib.bitLen_le n 64 (Nat.le_refl _) h
  have e : ∀ k, (128 : Nat) ^ k = 2 ^ (7 * k) := fun k => by rw [Nat.pow_mul]
  by_cases h0 : n = 0
  · subst h0; decide
  · obtain ⟨i1, i2, i3⟩ := bitLen_spec (n + 1) n (by omega) h0 h
    have hs : sizeN n = max 1 ((Lib.bitLen n + 6) / 7) := rfl
    refine ⟨by omega, by omega, ?_, fun h2 => ?_⟩
    · rw [e]
      exact Nat.lt_of_lt_of_le i3 (Nat.pow_le_pow_right (by omega) (by omega))
    · rw [e]
      exact Nat.le_trans (Nat.pow_le_pow_right (by omega) (by omega)) i2
theorem round_more (n k : Nat) (h : n < 18446744073709551616) (hk : k ≤ sizeN n - 1) : 128 ≤ n / 128 ^ k ↔ k < sizeN n - 1 := by
  obtain ⟨h1, h2, h3, h4⟩ := size_spec n h
  have hp : 0 < 128 ^ k := Nat.pow_pos (by omega)
  rw [Nat.le_div_iff_mul_le hp, Nat.mul_comm, ← Nat.pow_succ]
  constructor
  · intro h5
    rcases Nat.lt_or_ge k (sizeN n - 1) with h6 | h6
    · exact h6
    · have : 128 ^ sizeN n ≤ 128 ^ (k + 1) := Nat.pow_le_pow_right (by omega) (by omega)
      omega
  · intro h5
    exact Nat.le_trans (Nat.pow_le_pow_right (by omega) (by omega)) (h4 (by omega))
/-- A row of bytes of one's own. -/
def OwnB (w : World) (B : Nat) (v : Value) (xs : List Nat) : Prop := w.ownsRow B 5 1 v xs.length (valsB xs)
theorem ownB_of {w : World} {B n : Nat} {v : Value} {xs : List Nat} (h : w.ownsRow B 5 1 v n (valsB xs)) (hn : n = xs.length) : OwnB w B v xs := by subst hn; exact h
theorem OwnB.rdv {w : World} {B : Nat} {v : Value} {xs : List Nat} (h : OwnB w B v xs) : ∃ A c, v = .slice A xs.length c ∧ Rdv w A xs.length 1 (valsB xs) ∧ (A = none → c = 0) ∧ xs.length ≤ c := rdv_own h
theorem wpList_appB {w : World} {ops : Array Oper} {rest : List Oper} {o : Oper} {a : Act} {Q : Exit → Act → World → Prop} (hgd : o.guard = none) (s x : Operand)
    (ho : o.op = .call { callee := .builtin .append, args := #[s, x], argTypes := #[57, 57] })
    (B : Nat) (v : Value) (xs : List Nat) (hs : a.eval s = v) (hown : OwnB w B v xs)
    (A : Option Addr) (m c : Nat) (ys : List Nat) (hx : a.eval x = .slice A m c) (hr : Rdv w A m 1 (valsB ys)) (hnil : A = none → c = 0)
    (hmx : xs.length + m ≤ 17592186044416) (hbase : B ≤ w.heap.size)
    (h : ∀ v' w', OwnB w' B v' (xs ++ ys) → Below B w w' → Touch w w' w'.heap.size v.ownBlock → (v'.ownBlock = v.ownBlock ∨ v'.ownBlock = some w.heap.size) → wpList Try.prog ops Q rest (a.put o.dst v') w') : wpList Try.prog ops Q (o :: rest) a w := by
  refine wpList_append_rowv elemB hgd s x ho B v xs.length (valsB xs) hs hown A m c (valsB ys) hx hr (valsB_one _) hnil (by unfold maxLen; omega) (by omega) hbase fun v' w' h1 h2 h3 => h v' w' ?_ ?_ ?_ h3
  · have hl : ys.length = m := by have := hr.1; rw [valsB_length] at this; omega
    rw [← valsB_append] at h1
    exact ownB_of h1 (by rw [List.length_append, hl])
  · exact (Below.refl B w).grown h2 hbase (fun k hk => (hown.lt k hk).1)
  · exact ⟨h2.os, h2.tape, h2.output, h2.size, fun k hk _ hr => h2.block k hk (fun e => hr e.symm)⟩

set_option maxHeartbeats 1000000 in
theorem refCount_any (n : Nat) (hn : n < 18446744073709551616) (w : World) :
    Calls Try.prog 79 #[.int .u64 (n : Int)] w fun e w' => ∃ v, e = .returned v ∧ OwnB w' w.heap.size v (cntN n) ∧ Below w.heap.size w w' := by
  have hc : cntN n = preN n (sizeN n - 1) ++ [n / 128 ^ (sizeN n - 1) % 256] := rfl
  have hmore := round_more n
  have hs10 : sizeN n - 1 ≤ 9 := by have := (size_spec n hn).2.1; omega
  obtain ⟨s, hs⟩ : ∃ s, s = sizeN n - 1 := ⟨_, rfl⟩
  rw [← hs] at hc hs10
  have hmore : ∀ k, k ≤ s → (128 ≤ n / 128 ^ k ↔ k < s) := fun k hk => by have := hmore k hn (by omega); rw [← hs] at this; exact this
  rw [hc]
  obtain ⟨L, hL⟩ : ∃ L, L = n / 128 ^ s % 256 := ⟨_, rfl⟩
  rw [← hL]
  have HL := Lib.hid hL
  have HM := Lib.hid hmore
  clear hc hmore hs hL
  go_enter Try.func79, Try.ntmps79
  go_wp2_with fail
  go_loopw [0, 3] (fun x v wr => ∃ (k : Nat) (v' : Value), x = .int .u64 ((n / 128 ^ k : Nat) : Int) ∧ v = v' ∧ k ≤ s ∧ OwnB wr w.heap.size v' (preN n k) ∧ Below w.heap.size w wr) (fun x _ _ => (intOf x).toNat)
  case atStart => exact ⟨0, _, by simp, rfl, by omega, by rw [show preN n 0 = [] from rfl]; exact World.ownsRow_nil _ _ _ _, Below.refl _ _⟩
  case round =>
    obtain ⟨k, v, rfl, rfl, hk, hown, hb⟩ := hrel
    have hsz := hb.size
    have hpl : (preN n k).length = k := preN_length n k
    obtain ⟨N, hN⟩ : ∃ N, N = n / 128 ^ k := ⟨_, rfl⟩
    have hsucc := preN_succ n k
    have hdiv : n / 128 ^ (k + 1) = N / 128 := by rw [hN, Nat.pow_succ, Nat.div_div_eq_div_mul]
    have hmk := HM.out k hk
    rw [← hN] at hsucc hmk ⊢
    by_cases hlt : k < s
    · have hge : 128 ≤ N := hmk.2 hlt
      obtain ⟨X, hX⟩ : ∃ X, X = N % 128 + 128 := ⟨_, rfl⟩
      rw [← hX] at hsucc
      have e1 : (N : Int) % 128 + 128 = (X : Int) := by omega
      have hX255 : X ≤ 255 := by omega
      have e2 : (N : Int) / 128 = ((N / 128 : Nat) : Int) := rfl
      obtain ⟨M, hM⟩ : ∃ M, M = N / 128 := ⟨_, rfl⟩
      rw [← hM] at e2 hdiv
      have hMN : M < N := by omega
      have hN64 : N < 18446744073709551616 := by rw [hN]; exact Nat.lt_of_le_of_lt (Nat.div_le_self _ _) hn
      have HO := Lib.hid hown
      have HB := Lib.hid hb
      have HSU := Lib.hid hsucc
      have HDI := Lib.hid hdiv
      have HPL := Lib.hid hpl
      clear hown hb hsucc hdiv hpl hmk hX hM hN
      go_wp2_with (at_builtin; refine wpList_appB rfl (.tmp 6) (.tmp 11) rfl w.heap.size _ (preN n k) rfl (World.ownsRow.alloc HO.out _) _ 1 1 [X] rfl (rdv_one wr X) (fun h => by cases h) (by have := HPL.out; omega) (by rw [World.size_alloc]; omega) ?_; intro v3 w3 hown3 hb3 _ _; have HO3 := Lib.hid hown3; have HB3 := Lib.hid ((HB.out.alloc hsz _).trans hb3); clear hown3 hb3)
      go_roundw
      case rel => exact ⟨k + 1, v3, by rw [HDI.out], rfl, by omega, by rw [HSU.out]; exact HO3.out, HB3.out⟩
      case measure => simp [intOf]; omega
    · obtain rfl : k = s := by omega
      have hge : ¬ 128 ≤ N := fun h => hlt (hmk.1 h)
      have hX255 : N ≤ 255 := by omega
      have hLN : L = N := by rw [HL.out, ← hN]; omega
      have HLN := Lib.hid hLN
      have HO := Lib.hid hown
      have HB := Lib.hid hb
      have HPL := Lib.hid hpl
      clear hown hb hsucc hdiv hpl hmk hLN hN
      go_wp2_with (at_builtin; refine wpList_appB rfl (.tmp 15) (.tmp 18) rfl w.heap.size _ (preN n k) rfl (World.ownsRow.alloc HO.out _) _ 1 1 [N] rfl (rdv_one wr N) (fun h => by cases h) (by have := HPL.out; omega) (by rw [World.size_alloc]; omega) ?_; intro v3 w3 hown3 hb3 _ _; have HO3 := Lib.hid hown3; have HB3 := Lib.hid ((HB.out.alloc hsz _).trans hb3); clear hown3 hb3)
      go_ret
      exact ⟨_, rfl, by rw [HLN.out]; exact HO3.out, HB3.out⟩

set_option maxHeartbeats 400000 in
theorem folded_any (z : Int) (hz : Fits z) (w : World) :
    Calls Try.prog 101 #[.int .i64 z] w fun e w' => e = .returned (.int .u64 ((foldN z : Nat) : Int)) ∧ w = w' := by
  have hf : foldN z = if z < 0 then (2 * (-(z + 1)) + 1).toNat else (2 * z).toNat := rfl
  obtain ⟨F, hF⟩ : ∃ F, F = foldN z := ⟨_, rfl⟩
  rw [← hF] at hf ⊢
  unfold Fits at hz
  obtain ⟨h1, h2⟩ := hz
  by_cases h0 : z < 0
  · rw [if_pos h0] at hf
    have HF := Lib.hid (show (F : Int) = 2 * (-(z + 1)) + 1 by omega)
    clear hf hF
    go_enter Try.func101, Try.ntmps101
    go_wp2_with fail
    go_ret
    have := HF.out
    exact ⟨by rw [this]; go_num, rfl⟩
  · rw [if_neg h0] at hf
    have HF := Lib.hid (show (F : Int) = 2 * z by omega)
    clear hf hF
    go_enter Try.func101, Try.ntmps101
    go_wp2_with fail
    go_ret
    have := HF.out
    exact ⟨by rw [this]; go_num, rfl⟩
set_option maxHeartbeats 400000 in
theorem refNum_any (z : Int) (hz : Fits z) (w : World) :
    Calls Try.prog 80 #[.int .i64 z] w fun e w' => ∃ v, e = .returned v ∧ OwnB w' w.heap.size v (cntN (foldN z)) ∧ Below w.heap.size w w' := by
  have HF := Lib.hid (folded_any z hz w)
  have HC := Lib.hid (refCount_any (foldN z) (foldN_lt hz) w)
  clear hz
  go_enter Try.func80, Try.ntmps80
  go_wp2_with fail
  refine Calls.mono HF.out ?_
  rintro e w1 ⟨rfl, rfl⟩
  go_wp2_with fail
  refine Calls.mono HC.out ?_
  rintro e w1 ⟨v, rfl, h1, h2⟩
  have H1 := Lib.hid h1
  have H2 := Lib.hid h2
  clear h1 h2
  go_wp2_with fail
  go_ret
  exact ⟨_, rfl, H1.out, H2.out⟩
/-- A new row of one byte. -/
theorem ownB_one (w : World) (x : Nat) : OwnB (w.alloc (.cells #[.int .u8 (x : Int)] 5)) w.heap.size (.slice (some ⟨w.heap.size, 0, none⟩) 1 1) [x] := by
  refine ⟨rfl, .inr ⟨w.heap.size, 1, #[.int .u8 (x : Int)], rfl, Nat.le_refl _, heap_alloc_new w _, ?_⟩⟩
  simp [valsB, maxLen]
theorem cntN_length (n : Nat) (h : n < 18446744073709551616) : (cntN n).length = sizeN n ∧ (cntN n).length ≤ 10 := by
  obtain ⟨h1, h2, _⟩ := size_spec n h
  unfold cntN
  rw [List.length_append, preN_length]
  simp
  omega
end Go.Proofs.Ytejpjbmbcdgomaa

/- The document's Put: a store's text. Written by gen_rput.py. -/
namespace Go.Proofs.Ytejpjbmbcdgomaa
set_option maxRecDepth 100000
open Go.RowKit

theorem OwnB.below {w w' : World} {B : Nat} {v : Value} {xs : List Nat} (h : OwnB w B v xs) (hb : Below w.heap.size w w') : OwnB w' B v xs := own_same h fun q hq => by
  obtain ⟨_, e⟩ := own_at h hq
  exact hb.block q (Array.getElem?_eq_some_iff.1 e).1
/-- A store's text, of its entries. -/
def txtE (l : List En) : List Nat := cntN (liveE l).length ++ ((liveE l).flatMap entB ++ [83])
theorem txtE_ents (ts : Tb) : txtE (ents ts) = putB ts := by unfold txtE putB; rw [liveE_ents]
def enQ (e : En) (q : Nat) : Obj := .cells #[.int .i64 (e.t : Int), .int .i64 e.x.k, .int .i64 e.x.c.v, .int .i64 (q : Int), .bool e.x.c.dead] 46 (0, 0)
/-- The text under construction, beside an entry in its box. -/
def TxA (W1 w : World) (lv : Value) (xs : List Nat) (p6 : Nat) (o : Obj) : Prop := OwnB w W1.heap.size lv xs ∧ Below W1.heap.size W1 w ∧ w.heap[p6]? = some o
theorem TxA.appended {W1 w w' : World} {lv lv' : Value} {xs ys : List Nat} {p6 q : Nat} {e : En} (h : TxA W1 w lv xs p6 (enQ e q)) (ho : OwnB w' W1.heap.size lv' (xs ++ ys)) (hb : Below W1.heap.size w w') (ht : Touch w w' w'.heap.size lv.ownBlock) : TxA W1 w' lv' (xs ++ ys) p6 (enQ e q) := by
  have hp := (Array.getElem?_eq_some_iff.1 h.2.2).1
  refine ⟨ho, h.2.1.trans hb, (ht.block p6 hp (by have := ht.size; omega) fun c => ?_).trans h.2.2⟩
  obtain ⟨cur, e2⟩ := own_at h.1 c
  have e3 := h.2.2
  rw [e2] at e3
  unfold enQ at e3
  simp at e3
set_option maxHeartbeats 16000000 in
theorem r9text_any {w : World} {A : Option Addr} {c : Nat} {l : List En} {last : Int} (h : Ens w A l) (hl : l.length ≤ 100000) (hnum : ∀ e ∈ l, e.t < 4 ∧ CellOk e.x) : Calls Try.prog 37 #[.agg #[.slice A l.length c, .int .i64 last]] w fun e w' => ∃ v, e = .returned v ∧ OwnB w' w.heap.size v (txtE l) ∧ Below w.heap.size w w' := by
  obtain ⟨n, hn⟩ : ∃ n, n = l.length := ⟨_, rfl⟩
  obtain ⟨W1, hW1⟩ : ∃ W1, W1 = w.alloc (.cells #[.slice A n c, .int .i64 last] 31) := ⟨_, rfl⟩
  obtain ⟨p0, hp0⟩ : ∃ p0, p0 = w.heap.size := ⟨_, rfl⟩
  have b0 : W1.heap[p0]? = some (.cells #[.slice A n c, .int .i64 last] 31 (0, 0)) := by rw [hW1, hp0]; exact heap_alloc_new w _
  have bb : Below w.heap.size w W1 := by rw [hW1]; exact (Below.refl _ _).alloc (Nat.le_refl _) _
  have HW := Lib.hid hW1
  have HP := Lib.hid hp0
  have HBW := Lib.hid (And.intro bb (RowAt.below h bb))
  have HC : Hid (∀ wr, Below W1.heap.size W1 wr → wr.cell? ⟨p0, 0, none⟩ = some (.slice A n c)) := Lib.hid fun wr hb => by
    have e0 := (hb.block p0 (Array.getElem?_eq_some_iff.1 b0).1).trans b0
    rw [cell_of_row _ _ 0 _ _ _ e0]; rfl
  have HLV := Lib.hid (r9live_any (c := c) (last := last) (RowAt.below h bb) hl)
  rw [← hn] at HLV
  have hlv : (liveE l).length ≤ l.length := List.length_filter_le _ _
  obtain ⟨lv, hlvn⟩ : ∃ lv, lv = (liveE l).length := ⟨_, rfl⟩
  rw [← hlvn] at HLV hlv
  obtain ⟨RES, hres⟩ : ∃ RES, RES = txtE l := ⟨_, rfl⟩
  have HG : Hid (RES = (cntN lv ++ (liveE (l.drop 0)).flatMap entB) ++ [83]) := Lib.hid (by rw [hres, hlvn, List.append_assoc]; rfl)
  rw [← hres, ← hn]
  have HN := Lib.hid (And.intro hn hl)
  have HNM := Lib.hid hnum
  have f1 : IntKind.u64.wrap (lv : Int) = (lv : Int) := by rw [IntKind.wrap_u64]; omega
  have y0 : W1.cell? ⟨p0, 0, none⟩ = some (.slice A n c) := HC.out W1 (Below.refl _ _)
  have y1 : W1.cell? ⟨p0, 1, none⟩ = some (.int .i64 last) := by rw [cell_of_row _ _ 1 _ _ _ b0]; rfl
  have hlv2 : lv ≤ 100000 := Nat.le_trans hlv hl
  have HLL := Lib.hid hlv2
  clear hW1 hp0 b0 bb hres hn h hl hnum hlvn hlv hlv2
  go_enter Try.func37, Try.ntmps37
  go_upto_region 1 with fail
  rw [← HW.out, ← HP.out]
  go_wp2_with fail
  refine Calls.mono HLV.out ?_
  rintro e w2 ⟨rfl, b2⟩
  have HB2 := Lib.hid b2
  clear b2
  go_wp2_with fail
  refine Calls.mono (refCount_any lv (by have := HLL.out; omega) w2) ?_
  rintro e w3 ⟨v3, rfl, h3, b3⟩
  have HB3 : Hid (OwnB w3 W1.heap.size v3 (cntN lv) ∧ Below W1.heap.size W1 w3) := Lib.hid ⟨own_down h3 HB2.out.size, HB2.out.trans (b3.mono HB2.out.size)⟩
  clear h3 b3 y0 y1 f1
  go_wp2_with fail
  go_loopw [3, 4, 5, 10, 11, 12, 13, 14, 15, 16, 17, 18, 19, 20, 21, 22, 23, 24, 25, 26, 27, 28, 29, 30, 31, 32, 33, 34, 35, 36, 37, 38, 39, 40, 41, 42, 43, 44, 45, 46, 47, 48, 49, 50] (fun bv ix _ _ _ _ _ _ _ _ _ _ _ _ _ _ _ _ _ _ _ _ _ _ _ _ _ _ _ _ _ _ _ _ _ _ _ _ _ _ _ _ _ _ wr => ∃ (z : Nat) (xs : List Nat), ix = .int .i64 (z : Int) ∧ z ≤ n ∧ RES = (xs ++ (liveE (l.drop z)).flatMap entB) ++ [83] ∧ xs.length ≤ 10 + 40 * z ∧ OwnB wr W1.heap.size bv xs ∧ Below W1.heap.size W1 wr) (fun bv ix _ _ _ _ _ _ _ _ _ _ _ _ _ _ _ _ _ _ _ _ _ _ _ _ _ _ _ _ _ _ _ _ _ _ _ _ _ _ _ _ _ _ wr => n - (intOf ix).toNat)
  case atStart => exact ⟨0, cntN lv, rfl, Nat.zero_le _, HG.out, by have := cntN_len lv (by have := HLL.out; omega); omega, HB3.out⟩
  case round =>
    obtain ⟨z, xs0, rfl, hz, he, hx, ho, hb⟩ := hrel
    have HE := Lib.hid he
    have HXL := Lib.hid hx
    have HO := Lib.hid (And.intro ho hb)
    have s0 := HC.out wr hb
    clear he hx ho
    by_cases hlt : z < n
    · have hzl : z < l.length := by rw [← HN.out.1]; exact hlt
      obtain ⟨b, off, rfl, hcl⟩ := Ens.cell (RowAt.below HBW.out.2 hb) (by omega)
      obtain ⟨x0, x1, x2, x3, x4⟩ := hcl z hzl
      obtain ⟨e, hx0⟩ : ∃ e, e = l[z] := ⟨_, rfl⟩
      have hda : l.drop z = e :: l.drop (z + 1) := drop_at (by rw [hx0]; exact List.getElem?_eq_getElem hzl)
      have hok := HNM.out e (by rw [hx0]; exact List.getElem_mem hzl)
      rw [← hx0] at x0 x1 x2 x3 x4
      have HDA := Lib.hid hda
      have HOK := Lib.hid hok
      have hnb : n ≤ 100000 := by rw [HN.out.1]; exact HN.out.2
      have HLN : Hid (z + 1 ≤ 100000) := Lib.hid (by omega)
      obtain ⟨q, hq⟩ : ∃ q : Nat, q = e.x.c.s.toNat := ⟨_, rfl⟩
      have hqs : e.x.c.s = (q : Int) := by have := hok.2.2.2.1; omega
      have HQQ := Lib.hid hq
      rw [hqs] at x3
      have hq2 : q < 18446744073709551616 := by have := hok.2.2.2.2; omega
      obtain ⟨p6, hp6⟩ : ∃ p6, p6 = wr.heap.size := ⟨_, rfl⟩
      obtain ⟨we, hwe⟩ : ∃ we, we = wr.alloc (.cells #[.int .i64 (e.t : Int), .int .i64 e.x.k, .int .i64 e.x.c.v, .int .i64 (q : Int), .bool e.x.c.dead] 46) := ⟨_, rfl⟩
      have hbe : Below wr.heap.size wr we := by rw [hwe]; exact (Below.refl _ _).alloc (Nat.le_refl _) _
      have HO1 : Hid (TxA W1 we u3 xs0 p6 (enQ e q)) := Lib.hid ⟨HO.out.1.below hbe, HO.out.2.trans (hbe.mono HO.out.2.size), by rw [hwe, hp6]; exact heap_alloc_new wr _⟩
      have HWE := Lib.hid hwe
      have HP6 := Lib.hid hp6
      have HQ2 := Lib.hid hq2
      clear hcl hx0 hzl hda hwe hp6 hb hok hq hqs hq2 hbe
      go_upto_region 6 with fail
      rw [← HWE.out, ← HP6.out]
      clear s0 x0 x1 x2 x3 x4
      obtain ⟨vd, hvd⟩ : ∃ vd, vd = e.x.c.dead := ⟨_, rfl⟩
      have m4 : we.cell? ⟨p6, 4, none⟩ = some (.bool vd) := by rw [cell_of_row _ _ 4 _ _ _ HO1.out.2.2, hvd]; rfl
      have HVD := Lib.hid hvd
      clear hvd
      cases vd with
      | true =>
        have HD : Hid (RES = (xs0 ++ (liveE (l.drop (z + 1))).flatMap entB) ++ [83]) := Lib.hid (by
          rw [HE.out, HDA.out]
          unfold liveE
          rw [List.filter_cons_of_neg (by rw [← HVD.out]; decide)])
        go_wp2_with fail
        go_roundw
        case rel => exact ⟨z + 1, xs0, by go_num, by omega, HD.out, by have := HXL.out; omega, HO1.out.1, HO1.out.2.1⟩
        case measure => simp [intOf]; omega
      | false =>
        have HL1 : Hid (xs0.length = xs0.length) := Lib.hid rfl
        have HCT := Lib.hid (cntN_len e.t (by have := HOK.out.1; omega))
        have HCK := Lib.hid (cntN_len (foldN e.x.k) (foldN_lt HOK.out.2.1))
        have HCV := Lib.hid (cntN_len (foldN e.x.c.v) (foldN_lt HOK.out.2.2.1))
        have HCQ := Lib.hid (cntN_len q HQ2.out)
        have u1 : IntKind.u64.wrap (e.t : Int) = (e.t : Int) := by have := HOK.out.1; rw [IntKind.wrap_u64]; omega
        have u4 : IntKind.u64.wrap (q : Int) = (q : Int) := by have := HQ2.out; rw [IntKind.wrap_u64]; omega
        have yc : we.cell? ⟨p6, 0, none⟩ = some (.int .i64 (e.t : Int)) := by rw [cell_of_row _ _ 0 _ _ _ HO1.out.2.2]; rfl
        go_wp2_with fail
        refine Calls.mono (refCount_any e.t (by have := HOK.out.1; omega) we) ?_
        rintro e9 w1a ⟨v9, rfl, h9, b9⟩
        obtain ⟨A9, c9, rfl, r9, n9, _⟩ := OwnB.rdv h9
        have HR1 := Lib.hid (And.intro r9 n9)
        have HO1a : Hid (TxA W1 w1a u3 xs0 p6 (enQ e q)) := Lib.hid ⟨HO1.out.1.below b9, HO1.out.2.1.trans (b9.mono HO1.out.2.1.size), (b9.block p6 (Array.getElem?_eq_some_iff.1 HO1.out.2.2).1).trans HO1.out.2.2⟩
        clear h9 b9 r9 n9 yc m4
        obtain ⟨m9, hm9⟩ : ∃ m9, m9 = (cntN e.t).length := ⟨_, rfl⟩
        have HM1 := Lib.hid hm9
        rw [← hm9] at HR1 ⊢
        clear hm9
        go_wp2_with (at_builtin; refine wpList_appB rfl (.tmp 25) (.tmp 30) rfl W1.heap.size u3 xs0 rfl HO1a.out.1 A9 m9 c9 (cntN e.t) rfl HR1.out.1 HR1.out.2 (by rw [HM1.out]; have := HXL.out; have := HLN.out; have := HCT.out; omega) HO1a.out.2.1.size ?_; intro lv1 w1b ho hb ht hq; have HO2 := Lib.hid (HO1a.out.appended ho hb ht); have yc : w1b.cell? ⟨p6, 1, none⟩ = some (.int .i64 e.x.k) := by { rw [cell_of_row _ _ 1 _ _ _ HO2.out.2.2]; rfl }; clear ho hb ht hq)
        obtain ⟨xs1, hxs1⟩ : ∃ z, z = xs0 ++ (cntN e.t) := ⟨_, rfl⟩
        rw [← hxs1] at HO2
        have HX1 := Lib.hid hxs1
        have HL2 : Hid (xs1.length = xs0.length + (cntN e.t).length) := Lib.hid (by rw [hxs1]; simp)
        clear hxs1
        refine Calls.mono (refNum_any e.x.k HOK.out.2.1 w1b) ?_
        rintro e9 w2a ⟨v9, rfl, h9, b9⟩
        obtain ⟨A9, c9, rfl, r9, n9, _⟩ := OwnB.rdv h9
        have HR2 := Lib.hid (And.intro r9 n9)
        have HO2a : Hid (TxA W1 w2a lv1 xs1 p6 (enQ e q)) := Lib.hid ⟨HO2.out.1.below b9, HO2.out.2.1.trans (b9.mono HO2.out.2.1.size), (b9.block p6 (Array.getElem?_eq_some_iff.1 HO2.out.2.2).1).trans HO2.out.2.2⟩
        clear h9 b9 r9 n9 yc
        obtain ⟨m9, hm9⟩ : ∃ m9, m9 = (cntN (foldN e.x.k)).length := ⟨_, rfl⟩
        have HM2 := Lib.hid hm9
        rw [← hm9] at HR2 ⊢
        clear hm9
        go_wp2_with (at_builtin; refine wpList_appB rfl (.tmp 32) (.tmp 36) rfl W1.heap.size lv1 xs1 rfl HO2a.out.1 A9 m9 c9 (cntN (foldN e.x.k)) rfl HR2.out.1 HR2.out.2 (by rw [HM2.out]; have := HXL.out; have := HLN.out; have := HCT.out; have := HL2.out; have := HCK.out; omega) HO2a.out.2.1.size ?_; intro lv2 w2b ho hb ht hq; have HO3 := Lib.hid (HO2a.out.appended ho hb ht); have yc : w2b.cell? ⟨p6, 2, none⟩ = some (.int .i64 e.x.c.v) := by { rw [cell_of_row _ _ 2 _ _ _ HO3.out.2.2]; rfl }; clear ho hb ht hq)
        obtain ⟨xs2, hxs2⟩ : ∃ z, z = xs1 ++ (cntN (foldN e.x.k)) := ⟨_, rfl⟩
        rw [← hxs2] at HO3
        have HX2 := Lib.hid hxs2
        have HL3 : Hid (xs2.length = xs1.length + (cntN (foldN e.x.k)).length) := Lib.hid (by rw [hxs2]; simp)
        clear hxs2
        refine Calls.mono (refNum_any e.x.c.v HOK.out.2.2.1 w2b) ?_
        rintro e9 w3a ⟨v9, rfl, h9, b9⟩
        obtain ⟨A9, c9, rfl, r9, n9, _⟩ := OwnB.rdv h9
        have HR3 := Lib.hid (And.intro r9 n9)
        have HO3a : Hid (TxA W1 w3a lv2 xs2 p6 (enQ e q)) := Lib.hid ⟨HO3.out.1.below b9, HO3.out.2.1.trans (b9.mono HO3.out.2.1.size), (b9.block p6 (Array.getElem?_eq_some_iff.1 HO3.out.2.2).1).trans HO3.out.2.2⟩
        clear h9 b9 r9 n9 yc
        obtain ⟨m9, hm9⟩ : ∃ m9, m9 = (cntN (foldN e.x.c.v)).length := ⟨_, rfl⟩
        have HM3 := Lib.hid hm9
        rw [← hm9] at HR3 ⊢
        clear hm9
        go_wp2_with (at_builtin; refine wpList_appB rfl (.tmp 38) (.tmp 42) rfl W1.heap.size lv2 xs2 rfl HO3a.out.1 A9 m9 c9 (cntN (foldN e.x.c.v)) rfl HR3.out.1 HR3.out.2 (by rw [HM3.out]; have := HXL.out; have := HLN.out; have := HCT.out; have := HL2.out; have := HCK.out; have := HL3.out; have := HCV.out; omega) HO3a.out.2.1.size ?_; intro lv3 w3b ho hb ht hq; have HO4 := Lib.hid (HO3a.out.appended ho hb ht); have yc : w3b.cell? ⟨p6, 3, none⟩ = some (.int .i64 (q : Int)) := by { rw [cell_of_row _ _ 3 _ _ _ HO4.out.2.2]; rfl }; clear ho hb ht hq)
        obtain ⟨xs3, hxs3⟩ : ∃ z, z = xs2 ++ (cntN (foldN e.x.c.v)) := ⟨_, rfl⟩
        rw [← hxs3] at HO4
        have HX3 := Lib.hid hxs3
        have HL4 : Hid (xs3.length = xs2.length + (cntN (foldN e.x.c.v)).length) := Lib.hid (by rw [hxs3]; simp)
        clear hxs3
        refine Calls.mono (refCount_any q HQ2.out w3b) ?_
        rintro e9 w4a ⟨v9, rfl, h9, b9⟩
        obtain ⟨A9, c9, rfl, r9, n9, _⟩ := OwnB.rdv h9
        have HR4 := Lib.hid (And.intro r9 n9)
        have HO4a : Hid (TxA W1 w4a lv3 xs3 p6 (enQ e q)) := Lib.hid ⟨HO4.out.1.below b9, HO4.out.2.1.trans (b9.mono HO4.out.2.1.size), (b9.block p6 (Array.getElem?_eq_some_iff.1 HO4.out.2.2).1).trans HO4.out.2.2⟩
        clear h9 b9 r9 n9 yc
        obtain ⟨m9, hm9⟩ : ∃ m9, m9 = (cntN q).length := ⟨_, rfl⟩
        have HM4 := Lib.hid hm9
        rw [← hm9] at HR4 ⊢
        clear hm9
        go_wp2_with (at_builtin; refine wpList_appB rfl (.tmp 44) (.tmp 49) rfl W1.heap.size lv3 xs3 rfl HO4a.out.1 A9 m9 c9 (cntN q) rfl HR4.out.1 HR4.out.2 (by rw [HM4.out]; have := HXL.out; have := HLN.out; have := HCT.out; have := HL2.out; have := HCK.out; have := HL3.out; have := HCV.out; have := HL4.out; have := HCQ.out; omega) HO4a.out.2.1.size ?_; intro lv4 w4b ho hb ht hq; have HO5 := Lib.hid (HO4a.out.appended ho hb ht); clear ho hb ht hq)
        obtain ⟨xs4, hxs4⟩ : ∃ z, z = xs3 ++ (cntN q) := ⟨_, rfl⟩
        rw [← hxs4] at HO5
        have HX4 := Lib.hid hxs4
        have HL5 : Hid (xs4.length = xs3.length + (cntN q).length) := Lib.hid (by rw [hxs4]; simp)
        clear hxs4

        have HFN : Hid (RES = (xs4 ++ (liveE (l.drop (z + 1))).flatMap entB) ++ [83] ∧ xs4.length ≤ 10 + 40 * (z + 1)) := Lib.hid (by
          refine ⟨?_, ?_⟩
          · rw [HE.out, HDA.out]
            unfold liveE
            rw [List.filter_cons_of_pos (by rw [← HVD.out]; decide), List.flatMap_cons, HX4.out, HX3.out, HX2.out, HX1.out]
            have e9 : entB e = cntN e.t ++ (cntN (foldN e.x.k) ++ (cntN (foldN e.x.c.v) ++ cntN q)) := by rw [HQQ.out]; rfl
            rw [e9]
            simp only [List.append_assoc]
          · have := HL2.out; have := HL3.out; have := HL4.out; have := HL5.out; have := HCT.out; have := HCK.out; have := HCV.out; have := HCQ.out; have := HXL.out
            omega)
        go_wp2_with fail
        go_roundw
        case rel => exact ⟨z + 1, xs4, by go_num, by omega, HFN.out.1, HFN.out.2, HO5.out.1, HO5.out.2.1⟩
        case measure => simp [intOf]; omega
    · obtain rfl : z = n := by omega
      have HRR : Hid (RES = xs0 ++ [83]) := Lib.hid (by
        have h9 := HE.out
        rw [List.drop_of_length_le (by rw [← HN.out.1]; exact Nat.le_refl _)] at h9
        simpa [liveE] using h9)
      have HZN : Hid (z ≤ 100000) := Lib.hid (by rw [HN.out.1]; exact HN.out.2)
      clear hb
      have HRD : Hid (∀ T, Rdv (wr.alloc (.cells #[.int .u8 83] T)) (some ⟨wr.heap.size, 0, none⟩) 1 1 (valsB [83])) := Lib.hid fun T => ⟨rfl, fun _ => ⟨wr.heap.size, 0, rfl, fun j u hj => by
        rw [Nat.zero_add, cell_of_row _ wr.heap.size j _ T (0, 0) (heap_alloc_new wr _)]
        simpa [valsB] using hj⟩⟩
      have HOW : Hid (∀ o, OwnB (wr.alloc o) W1.heap.size u3 xs0 ∧ Below W1.heap.size W1 (wr.alloc o)) := Lib.hid fun o => ⟨HO.out.1.below ((Below.refl _ _).alloc (Nat.le_refl _) o), HO.out.2.trans (((Below.refl _ _).alloc (Nat.le_refl _) o).mono HO.out.2.size)⟩
      go_wp2_with (at_builtin; go_loud (refine wpList_appB rfl (.tmp 51) (.tmp 52) rfl W1.heap.size u3 xs0 rfl (HOW.out _).1 (some ⟨wr.heap.size, 0, none⟩) 1 1 [83] rfl (HRD.out _) (fun h => by cases h) (by have := HXL.out; have := HZN.out; omega) (HOW.out _).2.size ?_); intro lv9 w9 ho9 hb9 ht9 hq9; have HO9 := Lib.hid (And.intro ho9 ((HOW.out _).2.trans hb9)); clear ho9 hb9 ht9 hq9)
      go_ret
      refine ⟨_, rfl, ?_, HBW.out.1.trans (HO9.out.2.mono HBW.out.1.size)⟩
      rw [HRR.out]
      exact own_down HO9.out.1 HBW.out.1.size
end Go.Proofs.Ytejpjbmbcdgomaa

/- Counts and numbers, there and back. -/
namespace Go.Proofs.Ytejpjbmbcdgomaa
set_option maxRecDepth 100000
open Go.RowKit

theorem cntN_small (n : Nat) (h : n < 128) : cntN n = [n] := by
  have key : ∀ y : Fin 128, cntN y.val = [y.val] := by decide +kernel
  exact key ⟨n, h⟩
theorem preN_cons (n k : Nat) : preN n (k + 1) = (n % 128 + 128) :: preN (n / 128) k := by
  unfold preN
  rw [List.range_succ_eq_map, List.map_cons, List.map_map]
  congr 1
  · simp
  · refine List.map_congr_left fun i _ => ?_
    simp only [Function.comp]
    rw [Nat.pow_succ, Nat.mul_comm, Nat.div_div_eq_div_mul]
theorem cntN_big (n : Nat) (h : 128 ≤ n) (hn : n < 18446744073709551616) : cntN n = (n % 128 + 128) :: cntN (n / 128) := by
  have hs : sizeN n = sizeN (n / 128) + 1 := by
    have h1 := Lib.bitLen_shift 7 n h hn
    have h2 : 1 ≤ Lib.bitLen (n / 128) := (bitLen_spec (n / 128 + 1) (n / 128) (by omega) (by omega) (by omega)).1
    unfold sizeN
    rw [h1, show (2 : Nat) ^ 7 = 128 from rfl]
    omega
  have h1 : 1 ≤ sizeN (n / 128) := by unfold sizeN; omega
  obtain ⟨s, e⟩ : ∃ s, sizeN (n / 128) = s + 1 := ⟨sizeN (n / 128) - 1, by omega⟩
  unfold cntN
  rw [hs, e, show s + 1 + 1 - 1 = s + 1 from rfl, show s + 1 - 1 = s from rfl, preN_cons, List.cons_append]
  congr 3
  rw [Nat.pow_succ, Nat.mul_comm, Nat.div_div_eq_div_mul]
theorem rcnt_cntN (f : Nat) : ∀ (i acc m : Nat) (rest : List Nat), f + i = 10 → m < 2 ^ (64 - 7 * i) → (0 < i → 0 < m) → (0 < f) → rcnt f i acc (cntN m ++ rest) = (acc + m * 128 ^ i, rest, false) := by
  induction f with
  | zero => intro i acc m rest _ _ _ h; exact absurd h (by omega)
  | succ f ih =>
    intro i acc m rest hi hm hp _
    have h64 : m < 18446744073709551616 := Nat.lt_of_lt_of_le hm (Nat.le_trans (Nat.pow_le_pow_right (by omega) (show 64 - 7 * i ≤ 64 by omega)) (by decide))
    have h9 : i = 9 → m < 2 := fun h => by subst h; exact hm
    by_cases hs : m < 128
    · rw [cntN_small m hs]
      show (if (i = 9 ∧ 1 < m) ∨ (0 < i ∧ m = 0) then (0, [], true) else if m < 128 then (acc + m % 128 * 128 ^ i, rest, false) else _) = _
      rw [if_neg (by omega), if_pos hs, Nat.mod_eq_of_lt hs]
    · rw [cntN_big m (by omega) h64]
      show (if (i = 9 ∧ 1 < m % 128 + 128) ∨ (0 < i ∧ m % 128 + 128 = 0) then (0, [], true) else if m % 128 + 128 < 128 then _ else rcnt f (i + 1) (acc + (m % 128 + 128) % 128 * 128 ^ i) (cntN (m / 128) ++ rest)) = _
      rw [if_neg (by omega), if_neg (by omega)]
      have hi9 : i < 9 := by
        rcases Nat.lt_or_ge i 9 with h | h
        · exact h
        · have := h9 (by omega); omega
      rw [ih (i + 1) _ (m / 128) rest (by omega) ?_ (fun _ => by omega) (by omega)]
      · congr 1
        have e : (128 : Nat) ^ (i + 1) = 128 * 128 ^ i := by rw [Nat.pow_succ, Nat.mul_comm]
        rw [show (m % 128 + 128) % 128 = m % 128 by omega, e, Nat.add_assoc, ← Nat.mul_assoc, ← Nat.add_mul]
        congr 2
        omega
      · have e : 64 - 7 * i = (64 - 7 * (i + 1)) + 7 := by omega
        rw [e, Nat.pow_add] at hm
        rw [Nat.div_lt_iff_lt_mul (by omega)]
        exact hm
theorem rcount_cntN (n : Nat) (h : n < 18446744073709551616) (rest : List Nat) : rcount (cntN n ++ rest) = (n, rest, false) := by
  unfold rcount
  rw [rcnt_cntN 10 0 0 n rest rfl h (fun h => absurd h (by omega)) (by omega)]
  simp
theorem unfold_fold {z : Int} (h : Fits z) : unfoldN (foldN z) = z := by
  unfold Fits at h
  unfold unfoldN foldN
  split <;> split <;> omega
theorem fold_inj {a b : Int} (ha : Fits a) (hb : Fits b) (h : foldN a = foldN b) : a = b := by rw [← unfold_fold ha, ← unfold_fold hb, h]
/-- No count's bytes begin another one's. -/
theorem cntN_apart {m n : Nat} (hm : m < 18446744073709551616) (hn : n < 18446744073709551616) (h : m ≠ n) (k : Nat) (hk : k = min (cntN m).length (cntN n).length) : (cntN m).take k ≠ (cntN n).take k := by
  have key : ∀ m n : Nat, m < 18446744073709551616 → n < 18446744073709551616 → (cntN m).length ≤ (cntN n).length → (cntN m).take (cntN m).length = (cntN n).take (cntN m).length → m = n := by
    intro m n hm hn hl he
    rw [List.take_length] at he
    have e1 : cntN n = cntN m ++ (cntN n).drop (cntN m).length := by
      rw [he, List.length_take, show min (cntN m).length (cntN n).length = (cntN m).length by omega]
      exact (List.take_append_drop _ _).symm
    have h1 := rcount_cntN m hm ((cntN n).drop (cntN m).length)
    rw [← e1] at h1
    have h2 := rcount_cntN n hn []
    rw [List.append_nil, h1] at h2
    exact (Prod.mk.inj h2).1
  intro he
  rcases Nat.le_total (cntN m).length (cntN n).length with hl | hl
  · rw [Nat.min_eq_left hl] at hk
    subst hk
    exact h (key m n hm hn hl he)
  · rw [Nat.min_eq_right hl] at hk
    subst hk
    exact h (key n m hn hm hl he.symm).symm
theorem size_mono {u v : Nat} (hu : u < 18446744073709551616) (hv : v < 18446744073709551616) (h : u ≤ v) : sizeN u ≤ sizeN v := by
  obtain ⟨a1, a2, a3, a4⟩ := size_spec u hu
  obtain ⟨b1, b2, b3, b4⟩ := size_spec v hv
  rcases Nat.lt_or_ge (sizeN v) (sizeN u) with hlt | hge
  · have h1 := a4 (by omega)
    have h2 : 128 ^ sizeN v ≤ 128 ^ (sizeN u - 1) := Nat.pow_le_pow_right (by omega) (by omega)
    omega
  · exact hge
theorem cntN_small_all (n : Nat) : ∀ x ∈ cntN n, x < 256 := by
  intro x hx
  unfold cntN preN at hx
  rw [List.mem_append, List.mem_map] at hx
  rcases hx with ⟨i, _, rfl⟩ | hx
  · omega
  · rw [List.mem_singleton] at hx; omega
end Go.Proofs.Ytejpjbmbcdgomaa
