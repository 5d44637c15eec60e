/- WStr, WChunk, WRefW: put together. -/
import Derived.Test.YtjmjehhmkjhalaaQb05
import Derived.Laws.BytesArg
import Derived.Lib.ConvBytes
/- Strings of bytes; the contracts of num.Same, of a reader's Text, of the new reader, and of a writer's Bytes and Text. -/
namespace Go.Proofs.Ytjmjehhmkjhalaa
set_option maxRecDepth 100000
open Go.RowKit

/-- What string(b) is. -/
def strN (xs : List Nat) : ByteArray := strOfNums (xs.map fun (x : Nat) => (x : Int))
theorem strN_data (xs : List Nat) : (strN xs).data.toList = xs.map UInt8.ofNat := by
  unfold strN
  rw [strOfNums_data, List.map_map]
  exact List.map_congr_left fun x _ => by simp
theorem strN_toList (xs : List Nat) : (strN xs).toList = xs.map UInt8.ofNat := by rw [ByteArray.toList_eq, strN_data]
theorem map_byte_inj : ∀ (xs ys : List Nat), (∀ x ∈ xs, x < 256) → (∀ x ∈ ys, x < 256) → xs.map UInt8.ofNat = ys.map UInt8.ofNat → xs = ys
  | [], [], _, _, _ => rfl
  | [], _ :: _, _, _, h => by simp at h
  | _ :: _, [], _, _, h => by simp at h
  | x :: xs, y :: ys, hx, hy, h => by
    simp only [List.map_cons, List.cons.injEq] at h
    have e1 := congrArg UInt8.toNat h.1
    rw [UInt8.toNat_ofNat', UInt8.toNat_ofNat'] at e1
    have h1 := hx x (List.mem_cons_self ..)
    have h2 := hy y (List.mem_cons_self ..)
    rw [map_byte_inj xs ys (fun a ha => hx a (List.mem_cons_of_mem _ ha)) (fun a ha => hy a (List.mem_cons_of_mem _ ha)) h.2]
    congr 1
    omega
theorem strN_beq (xs ys : List Nat) (hx : ∀ x ∈ xs, x < 256) (hy : ∀ x ∈ ys, x < 256) : ((strN xs).toList == (strN ys).toList) = decide (xs = ys) := by
  rw [strN_toList, strN_toList]
  by_cases h : xs = ys
  · subst h; simp
  · rw [decide_eq_false h]
    exact beq_eq_false_iff_ne.2 fun he => h (map_byte_inj xs ys hx hy he)
theorem run_str (w : World) (A : Option Addr) (n c : Nat) (xs : List Nat) (h : Rdv w A n 1 (valsB xs)) : (convert 51 9 (.slice A n c)).run Try.prog w = .ok (.string (strN xs)) w := by
  obtain ⟨hl, hc⟩ := h
  rw [valsB_length, Nat.mul_one] at hl
  rcases Nat.eq_zero_or_pos n with h0 | h0
  · subst h0
    obtain rfl : xs = [] := List.eq_nil_of_length_eq_zero hl
    rw [run_convert_bytes_string w 51 9 5 _ 0 c Try.underlying51 Try.underlying5 Try.underlying9]
    rcases A with _ | ad
    · rfl
    · rw [run_bytesToString w ad 0 c [] (by simpa using run_loadCells_list (P := Try.prog) w ad [] (fun j v hj => by simp at hj))]
      rfl
  · obtain ⟨b, off, rfl, hc'⟩ := hc h0
    exact run_convert_bytes_arg w 51 5 Try.underlying51 Try.underlying5 b off n c (xs.map fun (x : Nat) => (x : Int)) (by simp [hl]) (fun i hi => by
      rw [hc' i _ (show (valsB xs)[i]? = some (.int .u8 ((xs.getD i 0 : Nat) : Int)) by rw [valsB_get]; simp [List.getD_eq_getElem?_getD, show i < xs.length by omega])]
      simp [List.getD_eq_getElem?_getD, show i < xs.length by omega]) 9 Try.underlying9

set_option maxHeartbeats 400000 in
theorem newReader_any (A : Option Addr) (n c : Nat) (ys : List Nat) (w : World) (hr : Rdv w A n 1 (valsB ys)) (hnil : A = none → c = 0 ∧ n = 0) (hn : n ≤ 140737488355328) (hs : ∀ x ∈ ys, x < 256) :
    Calls Try.prog 119 #[.slice A n c] w fun e w' => ∃ g, e = .returned (.pointer (some ⟨g, 0, none⟩)) ∧ Rdr w' (fun k => w.heap.size ≤ k ∧ k < w'.heap.size) (.pointer (some ⟨g, 0, none⟩)) ys false ∧ Below w.heap.size w w' := by
  have HC := Lib.hid (clone_any A n c ys w hr hnil hn)
  have HS := Lib.hid hs
  clear hr hs hnil
  go_enter Try.func119, Try.ntmps119
  go_wp2_with fail
  refine Calls.mono HC.out ?_
  rintro e w1 ⟨_, rfl, A', c', rfl, h1, h2, h3⟩
  have H1 := Lib.hid h1
  have H2 := Lib.hid h2
  have H3 := Lib.hid h3
  clear h1 h2 h3
  go_wp2_with fail
  go_ret
  have hb := Below.alloc (Below.refl w1.heap.size w1) (Nat.le_refl _) (.cells #[.slice A' n c', .bool false] 237 (0, 0))
  refine ⟨_, rfl, .some _ A' n c' ys false ⟨H3.out.size, by rw [World.size_alloc]; omega⟩ (heap_alloc_new w1 _) (H1.out.ext (stays_b hb)) ?_ (fun h => by cases h) HS.out hn, (H3.out.alloc H3.out.size _)⟩
  rcases H2.out with h | ⟨b, e, h1, h2, h3, _⟩
  · exact .inl h
  · exact .inr ⟨b, 0, e, ⟨h1, by rw [World.size_alloc]; omega⟩, by omega, by rw [World.size_alloc]; omega, h3⟩
end Go.Proofs.Ytjmjehhmkjhalaa

/- The contracts of a writer's Bytes and Text. -/
namespace Go.Proofs.Ytjmjehhmkjhalaa
set_option maxRecDepth 100000
open Go.RowKit

theorem Wtr.ext {w w' : World} {B g : Nat} {v : Value} {xs : List Nat} (h : Wtr w B g v xs) (k : Below w.heap.size w w') : Wtr w' B g v xs :=
  ⟨h.low, (k.block g h.lt).trans h.block, row_stays h.own (fun j hj => k.block j (h.own.lt j hj).2)⟩
theorem Wrote.after {w w1 w' : World} {B g : Nat} {v v' : Value} {xs : List Nat} (k : Below w.heap.size w w1) (h : Wrote w1 w' B g v v' xs) : Wrote w w' B g v v' xs := by
  refine ⟨h.wtr, ⟨h.touch.os.trans k.os, h.touch.tape.trans k.tape, h.touch.output.trans k.output, Nat.le_trans k.size h.touch.size, fun j hj h1 h2 => (h.touch.block j (Nat.lt_of_lt_of_le hj k.size) h1 h2).trans (k.block j hj)⟩, ?_⟩
  rcases h.row with h1 | ⟨j, h1, h2⟩
  · exact .inl h1
  · exact .inr ⟨j, h1, Nat.le_trans k.size h2⟩
/-- A row of bytes that a writer's calls leave alone. -/
def AwayB (w : World) (g : Nat) (v : Value) (A : Option Addr) : Prop := ∀ ad, A = some ad → ad.block < w.heap.size → ad.block ≠ g ∧ v.ownBlock ≠ some ad.block
theorem Touch.rdv {w w' : World} {g n size : Nat} {v : Value} {A : Option Addr} {ys : List Value} (h : Touch w w' g v.ownBlock) (hr : Rdv w A n size ys) (ha : 0 < n → AwayB w g v A) : Rdv w' A n size ys := by
  refine ⟨hr.1, fun hn => ?_⟩
  obtain ⟨b, off, e, hc⟩ := hr.2 hn
  refine ⟨b, off, e, fun j u hj => ?_⟩
  have hlt := World.block_lt_of_cell? _ _ (hc j u hj)
  have := ha hn _ e hlt
  rw [← hc j u hj]
  exact World.cell?_of_block (h.block b hlt this.1 this.2)

end Go.Proofs.Ytjmjehhmkjhalaa

/- The contracts of the document's writer: Count, Num, Flag, Bytes. -/
namespace Go.Proofs.Ytjmjehhmkjhalaa
set_option maxRecDepth 100000
open Go.RowKit

theorem bitLen_spec : ∀ (n x : Nat), x < n → x ≠ 0 → x < 2 ^ 64 → 1 ≤ Lib.bitLen x ∧ 2 ^ (Lib.bitLen x - 1) ≤ x ∧ x < 2 ^ Lib.bitLen x
  | 0, x, h, _, _ => absurd h (by omega)
  | n + 1, x, h, h0, h64 => by
    rw [Lib.bitLen_half x h0 h64]
    by_cases h1 : x / 2 = 0
    · have hx : x = 1 := by omega
      subst hx
      decide
    · obtain ⟨i1, i2, i3⟩ := bitLen_spec n (x / 2) (by omega) h1 (by omega)
      obtain ⟨k, hk⟩ : ∃ k, Lib.bitLen (x / 2) = k + 1 := ⟨Lib.bitLen (x / 2) - 1, by omega⟩
      rw [hk] at i2 i3 ⊢
      refine ⟨by omega, ?_, ?_⟩
      · have e : 1 + (k + 1) - 1 = k + 1 := by omega
        rw [e, Nat.pow_succ]
        have e2 : k + 1 - 1 = k := by omega
        rw [e2] at i2
        omega
      · have e : 1 + (k + 1) = (k + 1) + 1 := by omega
        rw [e, Nat.pow_succ]
        omega
/-- A count's size: the least number of groups that hold it. -/
theorem size_spec (n : Nat) (h : n < 18446744073709551616) : 1 ≤ sizeN n ∧ sizeN n ≤ 10 ∧ n < 128 ^ sizeN n ∧ (2 ≤ sizeN n → 128 ^ (sizeN n - 1) ≤ n) := by
  have hl := Lib.bitLen_le n 64 (Nat.le_refl _) h
  have e : ∀ k, (128 : Nat) ^ k = 2 ^ (7 * k) := fun k => by rw [Nat.pow_mul]
  by_cases h0 : n = 0
  · subst h0; decide
  · obtain ⟨i1, i2, i3⟩ := bitLen_spec (n + 1) n (by omega) h0 h
    have hs : sizeN n = max 1 ((Lib.bitLen n + 6) / 7) := rfl
    refine ⟨by omega, by omega, ?_, fun h2 => ?_⟩
    · rw [e]
      exact Nat.lt_of_lt_of_le i3 (Nat.pow_le_pow_right (by omega) (by omega))
    · rw [e]
      exact Nat.le_trans (Nat.pow_le_pow_right (by omega) (by omega)) i2
theorem round_more (n k : Nat) (h : n < 18446744073709551616) (hk : k ≤ sizeN n - 1) : 128 ≤ n / 128 ^ k ↔ k < sizeN n - 1 := by
  obtain ⟨h1, h2, h3, h4⟩ := size_spec n h
  have hp : 0 < 128 ^ k := Nat.pow_pos (by omega)
  rw [Nat.le_div_iff_mul_le hp, Nat.mul_comm, ← Nat.pow_succ]
  constructor
  · intro h5
    rcases Nat.lt_or_ge k (sizeN n - 1) with h6 | h6
    · exact h6
    · have : 128 ^ sizeN n ≤ 128 ^ (k + 1) := Nat.pow_le_pow_right (by omega) (by omega)
      omega
  · intro h5
    exact Nat.le_trans (Nat.pow_le_pow_right (by omega) (by omega)) (h4 (by omega))
/-- A row of bytes of one's own. -/
def OwnB (w : World) (B : Nat) (v : Value) (xs : List Nat) : Prop := w.ownsRow B 5 1 v xs.length (valsB xs)
theorem ownB_of {w : World} {B n : Nat} {v : Value} {xs : List Nat} (h : w.ownsRow B 5 1 v n (valsB xs)) (hn : n = xs.length) : OwnB w B v xs := by subst hn; exact h
theorem OwnB.rdv {w : World} {B : Nat} {v : Value} {xs : List Nat} (h : OwnB w B v xs) : ∃ A c, v = .slice A xs.length c ∧ Rdv w A xs.length 1 (valsB xs) ∧ (A = none → c = 0) ∧ xs.length ≤ c := rdv_own h
theorem wpList_appB {w : World} {ops : Array Oper} {rest : List Oper} {o : Oper} {a : Act} {Q : Exit → Act → World → Prop} (hgd : o.guard = none) (s x : Operand)
    (ho : o.op = .call { callee := .builtin .append, args := #[s, x], argTypes := #[51, 51] })
    (B : Nat) (v : Value) (xs : List Nat) (hs : a.eval s = v) (hown : OwnB w B v xs)
    (A : Option Addr) (m c : Nat) (ys : List Nat) (hx : a.eval x = .slice A m c) (hr : Rdv w A m 1 (valsB ys)) (hnil : A = none → c = 0)
    (hmx : xs.length + m ≤ 17592186044416) (hbase : B ≤ w.heap.size)
    (h : ∀ v' w', OwnB w' B v' (xs ++ ys) → Below B w w' → Touch w w' w'.heap.size v.ownBlock → (v'.ownBlock = v.ownBlock ∨ v'.ownBlock = some w.heap.size) → wpList Try.prog ops Q rest (a.put o.dst v') w') : wpList Try.prog ops Q (o :: rest) a w := by
  refine wpList_append_rowv elemB hgd s x ho B v xs.length (valsB xs) hs hown A m c (valsB ys) hx hr (valsB_one _) hnil (by unfold maxLen; omega) (by omega) hbase fun v' w' h1 h2 h3 => h v' w' ?_ ?_ ?_ h3
  · have hl : ys.length = m := by have := hr.1; rw [valsB_length] at this; omega
    rw [← valsB_append] at h1
    exact ownB_of h1 (by rw [List.length_append, hl])
  · exact (Below.refl B w).grown h2 hbase (fun k hk => (hown.lt k hk).1)
  · exact ⟨h2.os, h2.tape, h2.output, h2.size, fun k hk _ hr => h2.block k hk (fun e => hr e.symm)⟩

set_option maxHeartbeats 1000000 in
theorem refCount_any (n : Nat) (hn : n < 18446744073709551616) (w : World) :
    Calls Try.prog 92 #[.int .u64 (n : Int)] w fun e w' => ∃ v, e = .returned v ∧ OwnB w' w.heap.size v (cntN n) ∧ Below w.heap.size w w' := by
  have hc : cntN n = preN n (sizeN n - 1) ++ [n / 128 ^ (sizeN n - 1) % 256] := rfl
  have hmore := round_more n
  have hs10 : sizeN n - 1 ≤ 9 := by have := (size_spec n hn).2.1; omega
  obtain ⟨s, hs⟩ : ∃ s, s = sizeN n - 1 := ⟨_, rfl⟩
  rw [← hs] at hc hs10
  have hmore : ∀ k, k ≤ s → (128 ≤ n / 128 ^ k ↔ k < s) := fun k hk => by have := hmore k hn (by omega); rw [← hs] at this; exact this
  rw [hc]
  obtain ⟨L, hL⟩ : ∃ L, L = n / 128 ^ s % 256 := ⟨_, rfl⟩
  rw [← hL]
  have HL := Lib.hid hL
  have HM := Lib.hid hmore
  clear hc hmore hs hL
  go_enter Try.func92, Try.ntmps92
  go_wp2_with fail
  go_loopw [0, 3] (fun x v wr => ∃ (k : Nat) (v' : Value), x = .int .u64 ((n / 128 ^ k : Nat) : Int) ∧ v = v' ∧ k ≤ s ∧ OwnB wr w.heap.size v' (preN n k) ∧ Below w.heap.size w wr) (fun x _ _ => (intOf x).toNat)
  case atStart => exact ⟨0, _, by simp, rfl, by omega, by rw [show preN n 0 = [] from rfl]; exact World.ownsRow_nil _ _ _ _, Below.refl _ _⟩
  case round =>
    obtain ⟨k, v, rfl, rfl, hk, hown, hb⟩ := hrel
    have hsz := hb.size
    have hpl : (preN n k).length = k := preN_length n k
    obtain ⟨N, hN⟩ : ∃ N, N = n / 128 ^ k := ⟨_, rfl⟩
    have hsucc := preN_succ n k
    have hdiv : n / 128 ^ (k + 1) = N / 128 := by rw [hN, Nat.pow_succ, Nat.div_div_eq_div_mul]
    have hmk := HM.out k hk
    rw [← hN] at hsucc hmk ⊢
    by_cases hlt : k < s
    · have hge : 128 ≤ N := hmk.2 hlt
      obtain ⟨X, hX⟩ : ∃ X, X = N % 128 + 128 := ⟨_, rfl⟩
      rw [← hX] at hsucc
      have e1 : (N : Int) % 128 + 128 = (X : Int) := by omega
      have hX255 : X ≤ 255 := by omega
      have e2 : (N : Int) / 128 = ((N / 128 : Nat) : Int) := rfl
      obtain ⟨M, hM⟩ : ∃ M, M = N / 128 := ⟨_, rfl⟩
      rw [← hM] at e2 hdiv
      have hMN : M < N := by omega
      have hN64 : N < 18446744073709551616 := by rw [hN]; exact Nat.lt_of_le_of_lt (Nat.div_le_self _ _) hn
      have HO := Lib.hid hown
      have HB := Lib.hid hb
      have HSU := Lib.hid hsucc
      have HDI := Lib.hid hdiv
      have HPL := Lib.hid hpl
      clear hown hb hsucc hdiv hpl hmk hX hM hN
      go_wp2_with (at_builtin; refine wpList_appB rfl (.tmp 6) (.tmp 11) rfl w.heap.size _ (preN n k) rfl (World.ownsRow.alloc HO.out _) _ 1 1 [X] rfl (rdv_one wr X) (fun h => by cases h) (by have := HPL.out; omega) (by rw [World.size_alloc]; omega) ?_; intro v3 w3 hown3 hb3 _ _; have HO3 := Lib.hid hown3; have HB3 := Lib.hid ((HB.out.alloc hsz _).trans hb3); clear hown3 hb3)
      go_roundw
      case rel => exact ⟨k + 1, v3, by rw [HDI.out], rfl, by omega, by rw [HSU.out]; exact HO3.out, HB3.out⟩
      case measure => simp [intOf]; omega
    · obtain rfl : k = s := by omega
      have hge : ¬ 128 ≤ N := fun h => hlt (hmk.1 h)
      have hX255 : N ≤ 255 := by omega
      have hLN : L = N := by rw [HL.out, ← hN]; omega
      have HLN := Lib.hid hLN
      have HO := Lib.hid hown
      have HB := Lib.hid hb
      have HPL := Lib.hid hpl
      clear hown hb hsucc hdiv hpl hmk hLN hN
      go_wp2_with (at_builtin; refine wpList_appB rfl (.tmp 15) (.tmp 18) rfl w.heap.size _ (preN n k) rfl (World.ownsRow.alloc HO.out _) _ 1 1 [N] rfl (rdv_one wr N) (fun h => by cases h) (by have := HPL.out; omega) (by rw [World.size_alloc]; omega) ?_; intro v3 w3 hown3 hb3 _ _; have HO3 := Lib.hid hown3; have HB3 := Lib.hid ((HB.out.alloc hsz _).trans hb3); clear hown3 hb3)
      go_ret
      exact ⟨_, rfl, by rw [HLN.out]; exact HO3.out, HB3.out⟩

theorem cntN_length (n : Nat) (h : n < 18446744073709551616) : (cntN n).length = sizeN n ∧ (cntN n).length ≤ 10 := by
  obtain ⟨h1, h2, _⟩ := size_spec n h
  unfold cntN
  rw [List.length_append, preN_length]
  simp
  omega
end Go.Proofs.Ytjmjehhmkjhalaa
