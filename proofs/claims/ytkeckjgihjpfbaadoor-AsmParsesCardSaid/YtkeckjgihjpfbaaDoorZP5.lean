/- YtkeckjgihjpfbaaDoorAsmV, YtkeckjgihjpfbaaDoorBackP, YtkeckjgihjpfbaaDoorRf, YtkeckjgihjpfbaaDoorRfC, YtkeckjgihjpfbaaDoorRfN, YtkeckjgihjpfbaaDoorRDec, YtkeckjgihjpfbaaDoorAsmW, YtkeckjgihjpfbaaDoorAsmX, YtkeckjgihjpfbaaDoorAsmY, YtkeckjgihjpfbaaDoorPrintsLaw, YtkeckjgihjpfbaaDoorOpen, YtkeckjgihjpfbaaDoorOpenA, YtkeckjgihjpfbaaDoorOpenE: put together. -/
import Derived.Test.YtkeckjgihjpfbaaDoorZP4
import Derived.Test.YtkeckjgihjpfbaaDoorZP3
import Derived.Test.YtkeckjgihjpfbaaDoorZP1
import Derived.BigQuiet
import Derived.Deep.QuietTactic
import Derived.Deep.RegionLaw
import Derived.Deep.Cut
import Derived.Test.YtkeckjgihjpfbaaDoorZP2
import Derived.ProofKit
import Derived.OpenShut
import Derived.ShutString
import Derived.ChangeOld
import Derived.Below
import Derived.ChangeVars
import Derived.JoinedOf
import Derived.LaidLaws
import Derived.LaidHandle
import Derived.MakeChecks
import Derived.Stop.Joined
import Derived.Lib.LaidTab
import Derived.Deep.Slices
import Derived.Deep.Fields
import Derived.ChangeSame
import Derived.Lib.SmallJoins
import Derived.Lib.LaidU8
import Derived.Shelf.Vars
import Derived.Stop.LaidErr
/- Layer 7, of no program: how the library parts a text. -/
namespace Go.Proofs.YtkeckjgihjpfbaaDoor
set_option maxRecDepth 100000

theorem splitC_cons (c b : UInt8) (r : List UInt8) : splitC c (b :: r) = if b = c then [] :: splitC c r else match splitC c r with
    | [] => [[b]]
    | w :: ws => (b :: w) :: ws := rfl
theorem len_data (s : ByteArray) : s.data.toList.length = s.size := by rw [Array.length_toList]; rfl
theorem index_ways (c : UInt8) : ∀ s : List UInt8, (Lib.indexByte s c = -1 ∧ splitC c s = [s]) ∨ ∃ i : Nat, Lib.indexByte s c = i ∧ i < s.length ∧ splitC c s = s.take i :: splitC c (s.drop (i + 1))
  | [] => .inl ⟨rfl, rfl⟩
  | b :: r => by
    unfold Lib.indexByte
    rw [splitC_cons]
    by_cases hb : b = c
    · refine .inr ⟨0, by rw [if_pos (beq_iff_eq.2 hb)]; rfl, by simp, by rw [if_pos hb]; rfl⟩
    · rw [if_neg (by simpa using hb), if_neg hb]
      rcases index_ways c r with ⟨h1, h2⟩ | ⟨i, h1, h2, h3⟩
      · exact .inl ⟨by rw [h1]; rfl, by rw [h2]⟩
      · refine .inr ⟨i + 1, ?_, by simp; omega, ?_⟩
        · rw [h1, if_neg (by rw [beq_iff_eq]; omega)]; omega
        · rw [h3]; rfl
theorem tx_of (s : ByteArray) : tx s.data.toList = s := by simp [tx]
theorem indexB_is (s : ByteArray) (c : UInt8) : Lib.indexB s (tx [c]) = Lib.indexByte s.data.toList c := by
  rw [← Lib.index_one]; rfl
theorem split_is (c : UInt8) : ∀ (n : Nat) (s : ByteArray), s.size ≤ n → Lib.splitB (tx [c]) 0 (Lib.countB s (tx [c])) s = (splitC c s.data.toList).map tx ∧ Lib.countB s (tx [c]) + 1 = (splitC c s.data.toList).length := by
  intro n
  induction n with
  | zero =>
    intro s hs
    rcases index_ways c s.data.toList with ⟨h1, h2⟩ | ⟨i, _, h2, _⟩
    · have hi : Lib.indexB s (tx [c]) = -1 := (indexB_is s c).trans h1
      rw [Lib.splitB_miss _ _ _ _ hi, Lib.countB_miss s _ hi, h2]
      exact ⟨by simp [tx_of], rfl⟩
    · have := len_data s
      omega
  | succ n ih =>
    intro s hs
    rcases index_ways c s.data.toList with ⟨h1, h2⟩ | ⟨i, h1, h2, h3⟩
    · have hi : Lib.indexB s (tx [c]) = -1 := (indexB_is s c).trans h1
      rw [Lib.splitB_miss _ _ _ _ hi, Lib.countB_miss s _ hi, h2]
      exact ⟨by simp [tx_of], rfl⟩
    · have hi : Lib.indexB s (tx [c]) = i := (indexB_is s c).trans h1
      have hsl := len_data s
      have h1s : (tx [c]).size = 1 := rfl
      have e2 : (s.extract (i + (tx [c]).size) s.size).data.toList = s.data.toList.drop (i + 1) := by
        rw [h1s, Lib.extract_to_end]
      have e1 : s.extract 0 (i + 0) = tx (s.data.toList.take i) := by
        rw [← tx_of (s.extract 0 (i + 0)), Nat.add_zero, Lib.extract_from_zero]
      have hle : (s.extract (i + (tx [c]).size) s.size).size ≤ n := by
        rw [← len_data, e2, List.length_drop]; omega
      obtain ⟨h4, h5⟩ := ih _ hle
      have hcn := Lib.countB_hit s (tx [c]) i (by rw [h1s]; omega) hi
      rw [hcn, show 1 + Lib.countB (s.extract (i + (tx [c]).size) s.size) (tx [c]) = Lib.countB (s.extract (i + (tx [c]).size) s.size) (tx [c]) + 1 by omega, Lib.splitB_hit _ _ _ _ _ hi, h4, e1, h3, e2]
      rw [e2] at h5
      exact ⟨rfl, by rw [List.length_cons, h5]⟩
theorem cut_is (c : UInt8) (s : List UInt8) : (Lib.cut s [c] = (s, [], false) ∧ splitC c s = [s]) ∨ ∃ a r, Lib.cut s [c] = (a, r, true) ∧ splitC c s = a :: splitC c r ∧ r.length < s.length ∧ a.length ≤ s.length := by
  unfold Lib.cut
  rw [Lib.index_one]
  rcases index_ways c s with ⟨h1, h2⟩ | ⟨i, h1, h2, h3⟩
  · rw [h1, if_neg (by decide)]
    exact .inl ⟨rfl, h2⟩
  · rw [h1, if_pos (by omega)]
    refine .inr ⟨s.take i, s.drop (i + 1), by simp, h3, by rw [List.length_drop]; omega, List.length_take_le' ..⟩
theorem splitC_ne (c : UInt8) (s : List UInt8) : splitC c s ≠ [] := by
  obtain ⟨a, ws, h, _⟩ := splitC_join c s
  rw [h]; simp
theorem splitC_len (c : UInt8) (s : List UInt8) : (splitC c s).length ≤ s.length + 1 ∧ ∀ w ∈ splitC c s, w.length ≤ s.length := by
  induction s with
  | nil => exact ⟨by simp [splitC], by intro w hw; simp [splitC] at hw; rw [hw]; simp⟩
  | cons b r ih =>
    unfold splitC
    split
    · refine ⟨by simp; exact ih.1, fun w hw => ?_⟩
      rcases List.mem_cons.1 hw with rfl | hw
      · simp
      · have := ih.2 w hw; simp; omega
    · obtain ⟨a, ws, h, _⟩ := splitC_join b r
      cases hs : splitC c r with
      | nil => exact absurd hs (splitC_ne c r)
      | cons v vs =>
        rw [hs] at ih
        refine ⟨by simp at ih ⊢; omega, fun w hw => ?_⟩
        rcases List.mem_cons.1 hw with rfl | hw
        · have := ih.2 v (List.mem_cons_self ..); simp; omega
        · have := ih.2 w (List.mem_cons_of_mem _ hw); simp; omega
/-- The fuel of the first line. -/
def fuelOf (row : List UInt8) : Option Int := if row.take 5 = [102, 117, 101, 108, 32] then numO (row.drop 5) else none
theorem fuel_words (row : List UInt8) : fuelOf row = match splitC 32 row with
    | [a, b] => if a = [102, 117, 101, 108] then numO b else none
    | _ => none := by
  obtain ⟨a, ws, h1, h2, h3, h4⟩ := splitC_join 32 row
  rw [h1]
  unfold fuelOf
  have key : row.take 5 = [102, 117, 101, 108, 32] → a = [102, 117, 101, 108] ∧ ws ≠ [] := by
    intro ht
    have hr : row = [102, 117, 101, 108] ++ 32 :: row.drop 5 := by
      conv => lhs; rw [← List.take_append_drop 5 row, ht]
      rfl
    cases ws with
    | nil =>
      rw [List.flatMap_nil, List.append_nil] at h2
      rw [h2] at hr
      exact absurd (by rw [hr]; simp) h3
    | cons w ws =>
      rw [List.flatMap_cons, List.cons_append] at h2
      rw [h2] at hr
      exact ⟨(split_inj _ _ _ _ h3 (by decide) hr).1, by simp⟩
  have back : a = [102, 117, 101, 108] → ws ≠ [] → row.take 5 = [102, 117, 101, 108, 32] := by
    rintro rfl hw
    cases ws with
    | nil => exact absurd rfl hw
    | cons w ws => rw [h2]; rfl
  have hd : ∀ w vs, ws = w :: vs → a = [102, 117, 101, 108] → row.drop 5 = w ++ vs.flatMap fun w => 32 :: w := by
    rintro w vs rfl rfl
    rw [h2]; rfl
  match ws, key, back, hd, h4 with
  | [], key, _, _, _ => rw [if_neg (fun h => (key h).2 rfl)]
  | [w], key, back, hd, _ =>
    simp only []
    by_cases ha : a = [102, 117, 101, 108]
    · rw [if_pos ha, if_pos (back ha (by simp)), hd w [] rfl ha]; simp
    · rw [if_neg ha, if_neg fun h => ha (key h).1]
  | w :: v :: vs, key, back, hd, _ =>
    simp only []
    by_cases ha : a = [102, 117, 101, 108]
    · rw [if_pos (back ha (by simp)), hd w (v :: vs) rfl ha]
      cases hn : numO (w ++ (v :: vs).flatMap fun w => 32 :: w) with
      | none => rfl
      | some z =>
        have h5 := ((numO_iff _ _).1 hn).2
        have := itoa_mem z 32 (by rw [h5]; simp)
        have e : (32 : UInt8).toNat = 32 := rfl
        omega
    · rw [if_neg fun h => ha (key h).1]
end Go.Proofs.YtkeckjgihjpfbaaDoor

/- Beginnings of programs' bytes, and bytes behind them, are none's; unlike programs have unlike bytes. -/
namespace Go.Proofs.YtkeckjgihjpfbaaDoor
set_option maxRecDepth 100000
open Go.RowKit

theorem set_n (u : Ins) (k : Nat) (v : Int) (hu : Fits u.n) (hv : Fits v) : Fits (u.set k v).n := by
  unfold Ins.set
  split
  · exact hu
  split
  · exact hu
  split
  · exact hu
  split
  · exact hu
  · exact hv
theorem rest_small (bs : List Nat) (hs : ∀ b ∈ bs, b < 256) : ∀ b ∈ (rcount bs).2.1, b < 256 := by
  rcases rcount_ways bs with h | ⟨x, rest, h⟩
  · rw [h]; intro b hb; cases hb
  · rw [h]; exact small_rest hs h
theorem fold_fits : ∀ (ls : List Nat) (s : Ins × List Nat × Bool), (∀ b ∈ s.2.1, b < 256) → Fits s.1.n → Fits (ls.foldl stepL s).1.n ∧ ∀ b ∈ (ls.foldl stepL s).2.1, b < 256
  | [], _, hs, h => ⟨h, hs⟩
  | l :: ls, s, hs, h => by
    rw [List.foldl_cons]
    refine fold_fits ls _ (rest_small s.2.1 hs) ?_
    refine set_n _ _ _ h ?_
    split
    · exact unfoldN_fits _ (rcount_lt _ hs)
    · exact wrapI_fits _
theorem take_fits (bs : List Nat) (bad : Bool) (hs : ∀ b ∈ bs, b < 256) : Fits (takeI bs bad).1.n ∧ ∀ b ∈ (takeI bs bad).2.1, b < 256 :=
  fold_fits _ _ (fun b hb => hs b (List.mem_of_mem_drop hb)) (by show Fits 0; unfold Fits; decide)
theorem takeN_fits (k : Nat) (bs : List Nat) (bad : Bool) (hs : ∀ b ∈ bs, b < 256) : (∀ x ∈ (takeN k bs bad).1, Fits x.n) ∧ ∀ b ∈ (takeN k bs bad).2.1, b < 256 := by
  induction k with
  | zero => exact ⟨(fun x hx => by cases hx), hs⟩
  | succ k ih =>
    have h1 := take_fits (takeN k bs bad).2.1 (takeN k bs bad).2.2 ih.2
    rw [takeN]
    refine ⟨fun x hx => ?_, h1.2⟩
    rcases List.mem_append.1 hx with hx | hx
    · exact ih.1 x hx
    · rw [List.mem_singleton.1 hx]; exact h1.1
theorem readP_fits (xs : List Nat) (hs : ∀ b ∈ xs, b < 256) : ∀ x ∈ (readP xs).2.1, Fits x.n :=
  (takeN_fits _ _ _ (rest_small _ (rest_small xs hs))).1
theorem read_more {f : Int} {l : List Ins} (h : chk f l = -2) (hn : ∀ x ∈ l, Fits x.n) (rest : List Nat) : readP (encP f.toNat l ++ rest) = (f, l, rest, false) := by
  obtain ⟨hh, _⟩ := chk_good h
  unfold readP encP
  rw [List.append_assoc, List.append_assoc, rcount_cntN _ (by omega)]
  simp only []
  rw [rcount_cntN _ (by omega)]
  simp only []
  rw [Nat.min_eq_left (by omega : l.length ≤ 33), ← takeGN_wrap]
  have := takes_back wrapI_cv l (good_small h hn) rest l.length (Nat.le_refl _)
  rw [List.take_length, List.drop_length] at this
  rw [this, wrapI_cv _ (by omega), Int.toNat_of_nonneg (by omega)]
  rfl
/-- A true beginning of a program's bytes is none's. -/
theorem dec_cut {f : Int} {l : List Ins} (h : chk f l = -2) (hn : ∀ x ∈ l, Fits x.n) (hs : ∀ b ∈ encP f.toNat l, b < 256) (k : Nat) (hk : k < (encP f.toNat l).length) : decOk ((encP f.toNat l).take k) = false := by
  cases hd : decOk ((encP f.toNat l).take k) with
  | false => rfl
  | true =>
    have hs2 : ∀ b ∈ (encP f.toNat l).take k, b < 256 := fun b hb => hs b (List.mem_of_mem_take hb)
    obtain ⟨e, hc⟩ := dec_yes hs2 hd
    have h1 := read_more hc (readP_fits _ hs2) ((encP f.toNat l).drop k)
    rw [← e, List.take_append_drop, read_back h hn] at h1
    simp only [Prod.mk.injEq] at h1
    have h2 := congrArg List.length h1.2.2.1
    rw [List.length_drop] at h2
    simp at h2
    omega
/-- Nor is one with more behind it. -/
theorem dec_more {f : Int} {l : List Ins} (h : chk f l = -2) (hn : ∀ x ∈ l, Fits x.n) (b : Nat) : decOk (encP f.toNat l ++ [b]) = false := by
  unfold decOk
  rw [read_more h hn]
  simp
theorem enc_inj {f g : Int} {l m : List Ins} (h : chk f l = -2) (hn : ∀ x ∈ l, Fits x.n) (h2 : chk g m = -2) (hn2 : ∀ x ∈ m, Fits x.n) : decide (encP f.toNat l = encP g.toNat m) = sameP f g l m := by
  rw [Bool.eq_iff_iff]
  unfold sameP
  simp only [decide_eq_true_iff, Bool.and_eq_true]
  refine ⟨fun e => ?_, fun e => by rw [e.1, e.2]⟩
  have h3 := read_back h hn
  rw [e, read_back h2 hn2] at h3
  simp only [Prod.mk.injEq] at h3
  exact ⟨h3.1.symm, h3.2.1.symm⟩
end Go.Proofs.YtkeckjgihjpfbaaDoor

/- The document's reader in memory: it reads bytes that came in. The contracts of fail, Byte, Flag, Done. -/
namespace Go.Proofs.YtkeckjgihjpfbaaDoor
set_option maxRecDepth 100000
open Go.RowKit

/-- The document's reader: its block, the bytes that are left of what came in. -/
structure Rf (w : World) (B g : Nat) (A : Option Addr) (n c : Nat) (bs : List Nat) (bad : Bool) : Prop where
  low : B ≤ g
  block : w.heap[g]? = some (.cells #[.slice A n c, .bool bad] 86 (0, 0))
  row : Rdv w A n 1 (valsB bs)
  lies : (A = none ∧ n = 0 ∧ c = 0) ∨ ∃ b off, A = some ⟨b, off, none⟩ ∧ b < B ∧ n ≤ c
  hbad : bad = true → bs = []
  small : ∀ x ∈ bs, x < 256
  len : n ≤ 140737488355328
def Rfx (w : World) (B g : Nat) (bs : List Nat) (bad : Bool) : Prop := ∃ A n c, Rf w B g A n c bs bad
theorem Rf.lt {w : World} {B g : Nat} {A : Option Addr} {n c : Nat} {bs : List Nat} {bad : Bool} (h : Rf w B g A n c bs bad) : g < w.heap.size := (Array.getElem?_eq_some_iff.1 h.block).1
theorem Rf.blen {w : World} {B g : Nat} {A : Option Addr} {n c : Nat} {bs : List Nat} {bad : Bool} (h : Rf w B g A n c bs bad) : bs.length = n := by have := h.row.1; rw [valsB_length] at this; omega
theorem Rf.c0 {w : World} {B g : Nat} {A : Option Addr} {n c : Nat} {bs : List Nat} {bad : Bool} (h : Rf w B g A n c bs bad) : w.cell? ⟨g, 0, none⟩ = some (.slice A n c) := cell_of_row w g 0 _ 86 (0, 0) h.block
theorem Rf.c1 {w : World} {B g : Nat} {A : Option Addr} {n c : Nat} {bs : List Nat} {bad : Bool} (h : Rf w B g A n c bs bad) : w.cell? ⟨g, 1, none⟩ = some (.bool bad) := cell_of_row w g 1 _ 86 (0, 0) h.block
theorem Rf.f {w : World} {B g : Nat} {A : Option Addr} {n c : Nat} {bs : List Nat} {bad : Bool} (h : Rf w B g A n c bs bad) (o : Nat) : w.frozen? ⟨g, o, none⟩ = false := by
  have := h.block
  simp [World.frozen?, this]
/-- It stands where its block stands and what came in. -/
theorem Rf.stays {w w' : World} {B g : Nat} {A : Option Addr} {n c : Nat} {bs : List Nat} {bad : Bool} (h : Rf w B g A n c bs bad) (hg : w'.heap[g]? = w.heap[g]?) (hk : ∀ k, k < B → w'.heap[k]? = w.heap[k]?) : Rf w' B g A n c bs bad := by
  refine ⟨h.low, hg.trans h.block, ⟨h.row.1, fun hn => ?_⟩, h.lies, h.hbad, h.small, h.len⟩
  obtain ⟨b, off, e, hc⟩ := h.row.2 hn
  rcases h.lies with ⟨_, h0, _⟩ | ⟨b', off', e', h1, h2⟩
  · omega
  · rw [e] at e'
    injection e' with e'
    injection e' with e1 e2 e3
    subst e1
    exact ⟨b, off, e, fun j u hj => by rw [← hc j u hj]; exact World.cell?_of_block (hk b h1)⟩
theorem Rfx.stays {w w' : World} {B g : Nat} {bs : List Nat} {bad : Bool} (h : Rfx w B g bs bad) (hg : w'.heap[g]? = w.heap[g]?) (hk : ∀ k, k < B → w'.heap[k]? = w.heap[k]?) : Rfx w' B g bs bad := by
  obtain ⟨A, n, c, h⟩ := h
  exact ⟨A, n, c, h.stays hg hk⟩
theorem Rfx.small {w : World} {B g : Nat} {bs : List Nat} {bad : Bool} (h : Rfx w B g bs bad) : ∀ x ∈ bs, x < 256 := by
  obtain ⟨A, n, c, h⟩ := h
  exact h.small
theorem Rfx.empty {w : World} {B g : Nat} {bs : List Nat} (h : Rfx w B g bs true) : bs = [] := by
  obtain ⟨A, n, c, h⟩ := h
  exact h.hbad rfl
theorem Rfx.len {w : World} {B g : Nat} {bs : List Nat} {bad : Bool} (h : Rfx w B g bs bad) : bs.length ≤ 140737488355328 := by
  obtain ⟨A, n, c, h⟩ := h
  rw [h.blen]; exact h.len
/-- Only the reader's block is changed. -/
abbrev OnlyG (w w' : World) (g : Nat) : Prop := Only w w' (.pointer (some ⟨g, 0, none⟩))
theorem OnlyG.at {w w' : World} {g : Nat} (h : OnlyG w w' g) {k : Nat} (hk : k < w.heap.size) (hne : k ≠ g) : w'.heap[k]? = w.heap[k]? :=
  h.block k hk (fun he => by injection he with he; injection he with he; injection he with he; exact hne he.symm)
/-- The first m bytes are taken. -/
theorem Rf.cut {w : World} {B g b off n c : Nat} {bs : List Nat} (h : Rf w B g (some ⟨b, off, none⟩) n c bs false) (m : Nat) (hmn : m ≤ n) (off' c' : Nat) (ho : off' = off + m ∨ n = m) (hc : n - m ≤ c') :
    Rf (w.setCell ⟨g, 0, none⟩ (.slice (some ⟨b, off', none⟩) (n - m) c')) B g (some ⟨b, off', none⟩) (n - m) c' (bs.drop m) false := by
  have hl := h.blen
  have h1 : b < B := by
    rcases h.lies with ⟨h0, _⟩ | ⟨b', off', e', h1, h2⟩
    · cases h0
    · injection e' with e'; injection e' with e1; omega
  have hbg : b ≠ g := by have := h.low; omega
  have hcell : ∀ o, (w.setCell ⟨g, 0, none⟩ (.slice (some ⟨b, off', none⟩) (n - m) c')).cell? ⟨b, o, none⟩ = w.cell? ⟨b, o, none⟩ := fun o => World.cell?_of_block (Deep.blk_setCell_other w ⟨g, 0, none⟩ _ b hbg)
  have hblock := h.block
  refine ⟨h.low, ?_, ⟨by rw [valsB_length, List.length_drop]; omega, fun _ => ⟨b, off', rfl, fun j u hj => ?_⟩⟩, .inr ⟨b, off', rfl, h1, hc⟩, (fun h => by cases h), (fun x hx => h.small x (List.mem_of_mem_drop hx)), by have := h.len; omega⟩
  · simp [World.setCell, Array.getElem?_modify, hblock]
  · rw [valsB_get, List.getElem?_drop] at hj
    cases hx : bs[m + j]? with
    | none => rw [hx] at hj; cases hj
    | some x =>
      rw [hx] at hj
      cases hj
      have hj' := (List.getElem?_eq_some_iff.1 hx).1
      obtain ⟨b', o', e, hc'⟩ := h.row.2 (by omega)
      injection e with e
      injection e with e1 e2
      subst e1 e2
      rcases ho with rfl | rfl
      · rw [hcell, Nat.add_assoc]
        exact hc' _ _ (by rw [valsB_get, hx]; rfl)
      · omega
theorem Rf.cellAt {w : World} {B g : Nat} {A : Option Addr} {n c : Nat} {bs : List Nat} {bad : Bool} (h : Rf w B g A n c bs bad) (hn : 0 < n) : ∃ b off, A = some ⟨b, off, none⟩ ∧ n ≤ c ∧ ∀ j (hj : j < bs.length), w.cell? ⟨b, off + j, none⟩ = some (.int .u8 ((bs[j] : Nat) : Int)) := by
  obtain ⟨b, off, e, hc⟩ := h.row.2 hn
  rcases h.lies with ⟨_, h0, _⟩ | ⟨b', off', e', h1, h2⟩
  · omega
  · exact ⟨b, off, e, h2, fun j hj => hc j _ (by rw [valsB_get, List.getElem?_eq_getElem hj]; rfl)⟩

set_option maxHeartbeats 400000 in
theorem mfail_any (B g : Nat) (bs : List Nat) (bad : Bool) (w : World) (h : Rfx w B g bs bad) :
    Calls Tryd.prog 79 #[.pointer (some ⟨g, 0, none⟩)] w fun e w' => e = .returned (.tuple #[]) ∧ Rfx w' B g [] true ∧ OnlyG w w' g := by
  obtain ⟨A, n, c, h⟩ := h
  have c0 := h.c0
  have c1 := h.c1
  have f0 := h.f 0
  have f1 := h.f 1
  have HB := Lib.hid h.block
  have low := h.low
  clear h
  go_enter Tryd.func79, Tryd.ntmps79
  go_wp2_with fail
  refine bodyPost_end (v := .tuple #[]) (by simp [results, Tryd.results79, go_sem]) rfl ⟨rfl, ?_, (Only.set _ _ _ _).trans (Only.set _ _ _ _)⟩
  have hb := HB.out
  refine ⟨none, 0, 0, low, ?_, ⟨rfl, fun h => absurd h (by omega)⟩, .inl ⟨rfl, rfl, rfl⟩, (fun _ => rfl), (fun x hx => by cases hx), by omega⟩
  simp [World.setCell, Array.getElem?_modify, hb]
set_option maxHeartbeats 400000 in
theorem mdone_any (B g : Nat) (bs : List Nat) (bad : Bool) (w : World) (h : Rfx w B g bs bad) :
    Calls Tryd.prog 53 #[.pointer (some ⟨g, 0, none⟩)] w fun e w' => e = .returned (.bool (!bad && decide (bs = []))) ∧ w = w' := by
  obtain ⟨A, n, c, h⟩ := h
  have c0 := h.c0
  have c1 := h.c1
  have hl := h.blen
  have hn : decide (bs = []) = decide (n = 0) := decide_eq_decide.2 ⟨fun e => by rw [e] at hl; simpa using hl.symm, fun e => List.eq_nil_of_length_eq_zero (by omega)⟩
  rw [hn]
  clear h hl hn
  cases bad with
  | true =>
    go_enter Tryd.func53, Tryd.ntmps53
    go_wp2_with fail
    go_ret
    exact ⟨rfl, rfl⟩
  | false =>
    by_cases h0 : n = 0
    · subst h0
      go_enter Tryd.func53, Tryd.ntmps53
      go_wp2_with fail
      go_ret
      exact ⟨rfl, rfl⟩
    · have hp : 0 < n := Nat.pos_of_ne_zero h0
      have HD := Lib.hid (decide_eq_false h0)
      clear h0
      go_enter Tryd.func53, Tryd.ntmps53
      go_wp2_with fail
      go_ret
      exact ⟨by rw [HD.out]; exact ret_bool (by simp; omega), rfl⟩

set_option maxHeartbeats 400000 in
theorem mbyte_any (B g : Nat) (bs : List Nat) (bad : Bool) (w : World) (h : Rfx w B g bs bad) :
    Calls Tryd.prog 51 #[.pointer (some ⟨g, 0, none⟩)] w fun e w' => e = .returned (.int .u8 ((byteT bs : Nat) : Int)) ∧ Rfx w' B g (bs.drop 1) (bad || decide (bs.length = 0)) ∧ OnlyG w w' g := by
  have HF := Lib.hid (mfail_any B g bs bad w h)
  obtain ⟨A, n, c, h⟩ := h
  have c0 := h.c0
  have c1 := h.c1
  have hl := h.blen
  cases bad with
  | true =>
    obtain rfl : bs = [] := h.hbad rfl
    clear h hl
    go_enter Tryd.func51, Tryd.ntmps51
    go_wp2_with fail
    refine Calls.mono HF.out ?_
    rintro e w1 ⟨rfl, h1, h2⟩
    have H1 := Lib.hid h1
    have H2 := Lib.hid h2
    clear h1 h2
    go_wp2_with fail
    go_ret
    exact ⟨rfl, H1.out, H2.out⟩
  | false =>
    rcases bs with _ | ⟨x, t⟩
    · obtain rfl : n = 0 := by simpa using hl.symm
      clear h hl
      go_enter Tryd.func51, Tryd.ntmps51
      go_wp2_with fail
      refine Calls.mono HF.out ?_
      rintro e w1 ⟨rfl, h1, h2⟩
      have H1 := Lib.hid h1
      have H2 := Lib.hid h2
      clear h1 h2
      go_wp2_with fail
      go_ret
      exact ⟨rfl, H1.out, H2.out⟩
    · have hn : 0 < n := by simp at hl; omega
      obtain ⟨b, off, rfl, hnc, hcell⟩ := h.cellAt hn
      have k0 : w.cell? ⟨b, off, none⟩ = some (.int .u8 (x : Int)) := hcell 0 (by simp)
      have f0 := h.f 0
      have hA : (⟨b, off, none⟩ : Addr).add 1 = ⟨b, off + 1, none⟩ := addr_plus b off 1
      have HC := Lib.hid (fun off' c' => h.cut 1 hn off' c')
      have hlen := h.len
      clear h hl hcell HF
      go_enter Tryd.func51, Tryd.ntmps51
      go_wp2_with fail
      case inl =>
        have H1 := Lib.hid (HC.out off 0 (.inr (by omega)) (by omega))
        go_ret
        exact ⟨rfl, ⟨_, _, _, H1.out⟩, Only.set _ _ _ _⟩
      case inr =>
        have H1 := Lib.hid (HC.out (off + 1) (c - 1) (.inl rfl) (by omega))
        go_ret
        exact ⟨rfl, ⟨_, _, _, H1.out⟩, Only.set _ _ _ _⟩
end Go.Proofs.YtkeckjgihjpfbaaDoor

/- The contract of the document's reader's Count. -/
namespace Go.Proofs.YtkeckjgihjpfbaaDoor
set_option maxRecDepth 100000
open Go.RowKit

theorem Rdv.drewN {w : World} {A : Option Addr} {n size : Nat} {ys : List Value} (h : Rdv w A n size ys) (k : Nat) : Rdv (w.drewN k) A n size ys := h.ext (fun _ _ => rfl)
theorem below_drewN' {B : Nat} {a w : World} (h : Below B a w) (n : Nat) : Below B a (w.drewN n) := ⟨h.os, h.tape, h.output, h.size, h.block⟩
theorem Rf.below {w w' : World} {B g : Nat} {A : Option Addr} {n c : Nat} {bs : List Nat} {bad : Bool} (h : Rf w B g A n c bs bad) (k : Below w.heap.size w w') : Rf w' B g A n c bs bad :=
  h.stays (k.block g h.lt) (fun j hj => k.block j (by have := h.lt; have := h.low; omega))
set_option maxHeartbeats 400000 in
theorem mcount_bad (B g : Nat) (bs : List Nat) (w : World) (h : Rfx w B g bs true) :
    Calls Tryd.prog 78 #[.pointer (some ⟨g, 0, none⟩)] w fun e w' => e = .returned (.int .u64 0) ∧ Rfx w' B g [] true ∧ OnlyG w w' g := by
  have HF := Lib.hid (mfail_any B g bs true w h)
  obtain rfl := h.empty
  obtain ⟨A, n, c, h⟩ := h
  obtain rfl : n = 0 := by simpa using h.blen.symm
  have c0 := h.c0
  have c1 := h.c1
  clear h
  go_enter Tryd.func78, Tryd.ntmps78
  go_wp2_with fail
  refine wp_loop_rounds 1 ?_
  rw [rounds_succ]
  go_wp2_with fail
  refine Calls.mono HF.out ?_
  rintro e w1 ⟨rfl, h1, h2⟩
  have H1 := Lib.hid h1
  have H2 := Lib.hid h2
  clear h1 h2
  go_wp2_with fail
  go_ret
  exact ⟨rfl, H1.out, H2.out⟩
set_option maxHeartbeats 2000000 in
theorem mcount_good (B g : Nat) (bs : List Nat) (w : World) (h : Rfx w B g bs false) :
    Calls Tryd.prog 78 #[.pointer (some ⟨g, 0, none⟩)] w fun e w' => e = .returned (.int .u64 (((rcount bs).1 : Nat) : Int)) ∧ Rfx w' B g (rcount bs).2.1 (rcount bs).2.2 ∧ OnlyG w w' g := by
  have HF := Lib.hid (fun w (h : Rfx w B g bs false) => mfail_any B g bs false w h)
  have hsm := h.small
  obtain ⟨A, n, c, h⟩ := h
  have hl := h.blen
  have hlen := h.len
  have c0 := h.c0
  have c1 := h.c1
  have HH := Lib.hid h
  have HC := Lib.hid (fun hn => h.cellAt hn)
  have HL := Lib.hid hl
  have HNO := Lib.hid (fun k hk hend => rcount_no (k := k) hsm hk hend)
  have HAT := Lib.hid (fun k hlt hk hq u hu => rcount_at (k := k) hsm hlt hk hq u hu)
  have HSM := Lib.hid hsm
  obtain ⟨R, hR⟩ : ∃ R, R = rcount bs := ⟨_, rfl⟩
  rw [← hR] at HNO HAT ⊢
  clear h hl hR hsm
  go_enter Tryd.func78, Tryd.ntmps78
  go_wp2_with fail
  go_loop [3] (fun i => ∃ k : Nat, i = .int .i64 (k : Int) ∧ k ≤ n ∧ k ≤ 10 ∧ ∀ j (h : j < bs.length), j < k → 128 ≤ bs[j]) (fun i => 10 - (intOf i).toNat)
  case atStart => exact ⟨0, rfl, by omega, by omega, fun j _ h => absurd h (by omega)⟩
  case round =>
    obtain ⟨k, rfl, hkn, hk10, hall⟩ := hrel
    have HALL := Lib.hid hall
    clear hall
    by_cases hlt : k < n
    · by_cases h10 : k < 10
      · obtain ⟨b, off, rfl, hnc, hcell⟩ := HC.out (by omega)
        have hk0 := hcell k (by rw [HL.out]; exact hlt)
        have HCELL := Lib.hid hcell
        obtain ⟨x, hx⟩ : ∃ x, x = bs[k]'(by rw [HL.out]; exact hlt) := ⟨_, rfl⟩
        rw [← hx] at hk0
        have HX := Lib.hid hx
        clear hx hcell
        by_cases hge : 128 ≤ x
        · go_wp2_with fail
          go_round
          case rel =>
            refine ⟨k + 1, by go_num, by omega, by omega, fun j hj hjk => ?_⟩
            rcases Nat.lt_or_ge j k with h1 | h1
            · exact HALL.out j hj h1
            · obtain rfl : j = k := by omega
              rw [← HX.out]; exact hge
          case measure => simp [intOf]; omega
        · go_wp2_with fail
          clear hk0
          obtain ⟨l, hlt2⟩ : ∃ l, l = bs.take (k + 1) := ⟨_, rfl⟩
          have hll : l.length = k + 1 := by rw [hlt2, List.length_take, HL.out]; omega
          have HLT := Lib.hid hlt2
          have HLL := Lib.hid hll
          have hcl : ∀ j (h : j < l.length), w.cell? ⟨b, off + j, none⟩ = some (.int .u8 ((l[j] : Nat) : Int)) ∧ l[j] < 256 := fun j h => by
            have hj : j < bs.length := by rw [HL.out]; omega
            have e : l[j] = bs[j] := by simp [hlt2]
            rw [e]
            exact ⟨HCELL.out j hj, HSM.out _ (List.getElem_mem hj)⟩
          have HCL := Lib.hid hcl
          clear hlt2 hll hcl
          go_loop [4, 5] (fun u i => ∃ j : Nat, i = .int .i64 ((j : Int) - 1) ∧ j ≤ k + 1 ∧ u = .int .u64 ((valH (l.drop j) % 18446744073709551616 : Nat) : Int)) (fun _ i => (intOf i + 1).toNat)
          case atStart => exact ⟨k + 1, by go_num, by omega, by rw [List.drop_eq_nil_of_le (by rw [HLL.out]; omega)]; rfl⟩
          case round =>
            obtain ⟨j, rfl, hj, rfl⟩ := hrel
            by_cases hj0 : 0 < j
            · obtain ⟨i, rfl⟩ : ∃ i, j = i + 1 := ⟨j - 1, by omega⟩
              have hil : i < l.length := by rw [HLL.out]; omega
              obtain ⟨hci, hb256⟩ := HCL.out i hil
              obtain ⟨y, hy⟩ : ∃ y, y = l[i] := ⟨_, rfl⟩
              have hst := valH_step l i hil
              rw [← hy] at hci hb256 hst
              obtain ⟨v, hv⟩ : ∃ v, v = valH (l.drop (i + 1)) % 18446744073709551616 := ⟨_, rfl⟩
              have hst2 : valH (l.drop i) % 18446744073709551616 = (128 * v + y % 128) % 18446744073709551616 := by rw [hst, hv]; omega
              rw [← hv]
              have hv64 : v < 18446744073709551616 := by omega
              have HST := Lib.hid hst2
              clear hst hst2 hy hv
              go_wp2_with fail
              refine ⟨⟨i, rfl, by omega, ?_⟩, by simp [intOf]⟩
              rw [HST.out, IntKind.wrap_u64, IntKind.wrap_u64]
              congr 1
              omega
            · obtain rfl : j = 0 := by omega
              rw [List.drop_zero]
              have hat := HAT.out k (by rw [HL.out]; exact hlt) HALL.out (by rw [← HX.out]; omega) _ rfl
              rw [← HLT.out] at hat
              obtain ⟨u, hu⟩ : ∃ u, u = valH l % 18446744073709551616 := ⟨_, rfl⟩
              rw [← hu] at hat ⊢
              have hu64 : u < 18446744073709551616 := by omega
              have HAT2 := Lib.hid hat
              have HRC := Lib.hid (refCount_any u hu64 w)
              have hls : ∀ x ∈ l, x < 256 := fun x hx => HSM.out x (by rw [HLT.out] at hx; exact List.mem_of_mem_take hx)
              have HEQ := Lib.hid (strN_beq (cntN u) l (cntN_small_all u) hls)
              clear hu hat hls
              go_wp2_with fail
              refine Calls.mono HRC.out ?_
              rintro e w1 ⟨v, rfl, h1, h2⟩
              obtain ⟨A1, k1, rfl, h3, h4, h5⟩ := h1.rdv
              have H2 := Lib.hid h2
              have hh1 := HH.out.below h2
              have HH1 := Lib.hid hh1
              have c0' := hh1.c0
              have f0' := hh1.f 0
              have e1 := fun nq => run_str (w1.drewN nq) A1 _ k1 _ (h3.drewN nq)
              have hrl : Rdv w1 (some ⟨b, off, none⟩) (k + 1) 1 (valsB l) := ⟨by rw [valsB_length, HLL.out]; omega, fun _ => ⟨b, off, rfl, fun j v hj => by
                rw [valsB_get] at hj
                cases hx : l[j]? with
                | none => rw [hx] at hj; cases hj
                | some z =>
                  rw [hx] at hj
                  cases hj
                  have hjl := (List.getElem?_eq_some_iff.1 hx).1
                  rw [stays_b h2 _ (World.block_lt_of_cell? _ _ (HCL.out j hjl).1), (HCL.out j hjl).1]
                  rw [List.getElem?_eq_getElem hjl] at hx
                  injection hx with hx
                  rw [hx]⟩⟩
              have e2 := fun nq => run_str (w1.drewN nq) (some ⟨b, off, none⟩) (k + 1) c _ (hrl.drewN nq)
              obtain ⟨N, hN⟩ : ∃ N, N = (cntN u).length := ⟨_, rfl⟩
              obtain ⟨s1, hs1⟩ : ∃ s1, s1 = strN (cntN u) := ⟨_, rfl⟩
              obtain ⟨s2, hs2⟩ : ∃ s2, s2 = strN l := ⟨_, rfl⟩
              rw [← hs1, ← hs2] at HEQ
              rw [← hs1, ← hN] at e1
              rw [← hs2] at e2
              rw [← hN]
              clear hN hs1 hs2 h1 h2 h3 h4 h5 hh1 hrl c0
              have HCUT := Lib.hid (fun off' c' => HH1.out.cut (k + 1) (by omega) off' c')
              have HO1 := Lib.hid (show OnlyG w w1 g from Only.of_below H2.out)
              have q1 : IntKind.i64.wrap ((k : Int) + 1) = (k : Int) + 1 := IntWalk.i64_in _ (by omega)
              have q2 : (0 : Int) ≤ (k : Int) + 1 := by omega
              have q3 : ((k : Int) + 1).toNat = k + 1 := by omega
              have q4 : (⟨b, off, none⟩ : Addr).add (k + 1) = ⟨b, off + (k + 1), none⟩ := addr_plus b off (k + 1)
              have Q4 := Lib.hid q4
              clear q4
              by_cases he : cntN u = l
              · have hse : (s1.toList == s2.toList) = true := by have := HEQ.out; rw [decide_eq_true he] at this; exact this
                have hR := HAT2.out
                rw [if_pos he] at hR
                have HR := Lib.hid hR
                clear he hR
                go_wp2_with fail
                go_quiet (fail)
                clear q1 q2 q3 e1 e2
                have q4 := Q4.out
                go_wp2_with fail
                case inl =>
                  have H1 := Lib.hid (HCUT.out off 0 (.inr (by omega)) (by omega))
                  go_ret
                  rw [HR.out]
                  exact ⟨rfl, ⟨_, _, _, H1.out.stays rfl (fun _ _ => rfl)⟩, (HO1.out.trans (Only.of_below (below_drewN' (Below.refl _ _) nq))).trans (Only.set _ _ _ _)⟩
                case inr =>
                  have H1 := Lib.hid (HCUT.out (off + (k + 1)) (c - (k + 1)) (.inl rfl) (by omega))
                  go_ret
                  rw [HR.out]
                  exact ⟨rfl, ⟨_, _, _, H1.out.stays rfl (fun _ _ => rfl)⟩, (HO1.out.trans (Only.of_below (below_drewN' (Below.refl _ _) nq))).trans (Only.set _ _ _ _)⟩
              · have hse : (s1.toList == s2.toList) = false := by have := HEQ.out; rw [decide_eq_false he] at this; exact this
                have hR := HAT2.out
                rw [if_neg he] at hR
                have HR := Lib.hid hR
                clear he hR
                go_wp2_with fail
                go_quiet (fail)
                clear q1 q2 q3 e1 e2
                have HF2 := Lib.hid (HF.out (w1.drewN nq) ⟨_, _, _, HH1.out.stays rfl (fun _ _ => rfl)⟩)
                go_wp2_with fail
                refine Calls.mono HF2.out ?_
                rintro e w3 ⟨rfl, h1, h2⟩
                have H1 := Lib.hid h1
                have H3 := Lib.hid h2
                clear h1 h2
                go_wp2_with fail
                go_ret
                rw [HR.out]
                exact ⟨rfl, H1.out, (HO1.out.trans (Only.of_below (below_drewN' (Below.refl _ _) nq))).trans H3.out⟩
      · have HNO2 := Lib.hid (HNO.out k HALL.out (.inr (by omega)))
        have HF2 := Lib.hid (HF.out w ⟨_, _, _, HH.out⟩)
        go_wp2_with fail
        refine Calls.mono HF2.out ?_
        rintro e w1 ⟨rfl, h1, h2⟩
        have H1 := Lib.hid h1
        have H2 := Lib.hid h2
        clear h1 h2
        go_wp2_with fail
        go_ret
        rw [HNO2.out]
        exact ⟨rfl, H1.out, H2.out⟩
    · have HNO2 := Lib.hid (HNO.out k HALL.out (.inl (by rw [HL.out]; omega)))
      have HF2 := Lib.hid (HF.out w ⟨_, _, _, HH.out⟩)
      go_wp2_with fail
      refine Calls.mono HF2.out ?_
      rintro e w1 ⟨rfl, h1, h2⟩
      have H1 := Lib.hid h1
      have H2 := Lib.hid h2
      clear h1 h2
      go_wp2_with fail
      go_ret
      rw [HNO2.out]
      exact ⟨rfl, H1.out, H2.out⟩
theorem rcount_nil : rcount [] = (0, [], true) := rfl
theorem mcount_any (B g : Nat) (bs : List Nat) (bad : Bool) (w : World) (h : Rfx w B g bs bad) :
    Calls Tryd.prog 78 #[.pointer (some ⟨g, 0, none⟩)] w fun e w' => e = .returned (.int .u64 (((rcount bs).1 : Nat) : Int)) ∧ Rfx w' B g (rcount bs).2.1 (rcount bs).2.2 ∧ OnlyG w w' g := by
  cases bad with
  | true =>
    obtain rfl := h.empty
    rw [rcount_nil]
    exact mcount_bad B g [] w h
  | false => exact mcount_good B g bs w h
end Go.Proofs.YtkeckjgihjpfbaaDoor

/- The contracts of the document's reader's Num and Bytes. -/
namespace Go.Proofs.YtkeckjgihjpfbaaDoor
set_option maxRecDepth 100000
open Go.RowKit

theorem Rdv.set {w : World} {A : Option Addr} {n size : Nat} {ys : List Value} (h : Rdv w A n size ys) (p : Addr) (u : Value) (hne : ∀ ad, A = some ad → ad.block ≠ p.block) : Rdv (w.setCell p u) A n size ys :=
  ⟨h.1, fun hn => by
    obtain ⟨b, off, e, hc⟩ := h.2 hn
    exact ⟨b, off, e, fun j v hj => (World.cell?_of_block (Deep.blk_setCell_other w p u b (hne _ e))).trans (hc j v hj)⟩⟩
set_option maxHeartbeats 400000 in
theorem mnum_any (B g : Nat) (bs : List Nat) (bad : Bool) (w : World) (h : Rfx w B g bs bad) :
    Calls Tryd.prog 52 #[.pointer (some ⟨g, 0, none⟩)] w fun e w' => e = .returned (.int .i64 (unfoldN (rcount bs).1)) ∧ Rfx w' B g (rcount bs).2.1 (rcount bs).2.2 ∧ OnlyG w w' g := by
  have HC := Lib.hid (mcount_any B g bs bad w h)
  have hlt := rcount_lt bs h.small
  obtain ⟨n, hn⟩ : ∃ n, n = (rcount bs).1 := ⟨_, rfl⟩
  rw [← hn] at HC hlt ⊢
  have hu : unfoldN n = if n % 2 = 1 then -((n / 2 : Nat) : Int) - 1 else ((n / 2 : Nat) : Int) := rfl
  obtain ⟨U, hU⟩ : ∃ U, U = unfoldN n := ⟨_, rfl⟩
  rw [← hU] at hu ⊢
  clear h hn hU
  by_cases h1 : n % 2 = 1
  · rw [if_pos h1] at hu
    have HU := Lib.hid hu
    have h1' : (n : Int) % 2 = 1 := by omega
    clear hu h1
    go_enter Tryd.func52, Tryd.ntmps52
    go_wp2_with fail
    refine Calls.mono HC.out ?_
    rintro e w1 ⟨rfl, h2, h3⟩
    have H2 := Lib.hid h2
    have H3 := Lib.hid h3
    clear h2 h3
    go_wp2_with fail
    go_ret
    exact ⟨by rw [HU.out]; go_num, H2.out, H3.out⟩
  · rw [if_neg h1] at hu
    have HU := Lib.hid hu
    have h1' : (n : Int) % 2 = 0 := by omega
    clear hu h1
    go_enter Tryd.func52, Tryd.ntmps52
    go_wp2_with fail
    refine Calls.mono HC.out ?_
    rintro e w1 ⟨rfl, h2, h3⟩
    have H2 := Lib.hid h2
    have H3 := Lib.hid h3
    clear h2 h3
    go_wp2_with fail
    go_ret
    exact ⟨by rw [HU.out]; go_num, H2.out, H3.out⟩
end Go.Proofs.YtkeckjgihjpfbaaDoor

/- The document's Decode: count, and what stands in its rounds. -/
namespace Go.Proofs.YtkeckjgihjpfbaaDoor
set_option maxRecDepth 100000
open Go.RowKit

def refc (n : Nat) : Int := if 100000 < n then -1 else (n : Int)
theorem refc_cv : ∀ n, n ≤ 100000 → refc n = (n : Int) := fun n h => if_neg (by omega)
set_option maxHeartbeats 400000 in
theorem refc_any (B g : Nat) (bs : List Nat) (bad : Bool) (w : World) (h : Rfx w B g bs bad) :
    Calls Tryd.prog 50 #[.pointer (some ⟨g, 0, none⟩)] w fun e w' => e = .returned (.int .i64 (refc (rcount bs).1)) ∧ Rfx w' B g (rcount bs).2.1 (rcount bs).2.2 ∧ OnlyG w w' g := by
  have HC := Lib.hid (mcount_any B g bs bad w h)
  have hlt := rcount_lt bs h.small
  obtain ⟨u, hu⟩ : ∃ u, u = (rcount bs).1 := ⟨_, rfl⟩
  rw [← hu] at HC hlt ⊢
  clear h hu
  by_cases hl : 100000 < u
  · have d1 : decide ((100000 : Int) < (u : Int)) = true := decide_eq_true (by omega)
    have HE := Lib.hid (show refc u = -1 from if_pos hl)
    clear hl
    go_enter Tryd.func50, Tryd.ntmps50
    go_wp2_with fail
    refine Calls.mono HC.out ?_
    rintro e w1 ⟨rfl, h1, h2⟩
    have H1 := Lib.hid h1
    have H2 := Lib.hid h2
    clear h1 h2
    go_wp2_with fail
    go_ret
    exact ⟨by rw [HE.out]; rfl, H1.out, H2.out⟩
  · have d1 : decide ((100000 : Int) < (u : Int)) = false := decide_eq_false (by omega)
    have HE := Lib.hid (show refc u = (u : Int) from if_neg hl)
    have e1 : IntKind.i64.wrap (u : Int) = ((u : Nat) : Int) := by rw [IntKind.wrap_i64]; omega
    clear hl
    go_enter Tryd.func50, Tryd.ntmps50
    go_wp2_with fail
    refine Calls.mono HC.out ?_
    rintro e w1 ⟨rfl, h1, h2⟩
    have H1 := Lib.hid h1
    have H2 := Lib.hid h2
    clear h1 h2
    go_wp2_with fail
    go_ret
    exact ⟨by rw [HE.out]; rfl, H1.out, H2.out⟩
/-- What stands in the document's Decode's round. -/
structure RI (w : World) (q g : Nat) (wr : World) (f : Int) (v : Value) (s : List Ins × List Nat × Bool) : Prop where
  rf : Rfx wr g g s.2.1 s.2.2
  below : Below w.heap.size w wr
  out : wr.heap[w.heap.size]? = some (.cells #[.int .i64 0, .slice none 0 0] 24 (0, 0))
  cur : wr.heap[q]? = some (.cells #[.int .i64 f, v] 24 (0, 0))
  own : wr.ownsRow w.heap.size 43 6 v s.1.length (insV s.1)
  away : ∀ b, v.ownBlock = some b → g < b
  lo : w.heap.size < g
  gq : g < q
  lt : q + 1 ≤ wr.heap.size
theorem RI.step {w wr w2 : World} {q g : Nat} {f : Int} {v : Value} {s : List Ins × List Nat × Bool} {bs : List Nat} {bad : Bool} (h : RI w q g wr f v s) (hr : Rfx w2 g g bs bad) (ho : OnlyG wr w2 g) : RI w q g w2 f v (s.1, bs, bad) := by
  have lt := h.lt
  have gq := h.gq
  have lo := h.lo
  have hz := h.below.size
  refine ⟨hr, ⟨ho.os.trans h.below.os, ho.tape.trans h.below.tape, ho.output.trans h.below.output, Nat.le_trans hz ho.size, fun k hk => (ho.at (by omega) (by omega)).trans (h.below.block k hk)⟩, (ho.at (by omega) (by omega)).trans h.out, (ho.at (by omega) (by omega)).trans h.cur, own_keep h.own fun b _ e1 e => ho.at (Array.getElem?_eq_some_iff.1 e).1 (by have := h.away b e1; omega), h.away, lo, gq, Nat.le_trans lt ho.size⟩
theorem RI.later {w wr w2 : World} {q g : Nat} {f : Int} {v : Value} {s : List Ins × List Nat × Bool} (h : RI w q g wr f v s) (hb : Below wr.heap.size wr w2) : RI w q g w2 f v s := by
  have lt := h.lt
  have gq := h.gq
  have lo := h.lo
  exact ⟨h.rf.stays (hb.block _ (by omega)) (fun k hk => hb.block k (by omega)), h.below.trans (hb.mono h.below.size), (hb.block _ (by omega)).trans h.out, (hb.block _ (by omega)).trans h.cur, own_keep h.own fun b _ _ e => hb.block b (Array.getElem?_eq_some_iff.1 e).1, h.away, lo, gq, Nat.le_trans lt hb.size⟩
theorem RI.push {w wr w3 : World} {q g : Nat} {f : Int} {v v' : Value} {s : List Ins × List Nat × Bool} {x : Ins} {o : Obj} (h : RI w q g wr f v s) (hown : w3.ownsRow w.heap.size 43 6 v' (s.1.length + 1) (insV s.1 ++ insV [x]))
    (hg : (wr.alloc o).grownBy w3 v.ownBlock) (hv : v'.ownBlock = v.ownBlock ∨ v'.ownBlock = some (wr.alloc o).heap.size) :
    w3.heap[q]? = some (.cells #[.int .i64 f, v] 24 (0, 0)) ∧ RI w q g (w3.setCell ⟨q, 1, none⟩ v') f v' (s.1 ++ [x], s.2) := by
  have hs := hg.size
  rw [World.size_alloc] at hs
  have lt := h.lt
  have gq := h.gq
  have lo := h.lo
  have hsz := h.below.size
  have vt : ∀ b cur t, wr.heap[b]? = some (.cells cur t (0, 0)) → t ≠ 43 → v.ownBlock ≠ some b := fun b cur t e ht e2 => by
    obtain ⟨_, _, c2, h2⟩ := own_cells h.own b e2
    rw [e] at h2
    injection h2 with h2
    injection h2 with _ h2
    exact ht h2
  have keep : ∀ b, b < wr.heap.size → v.ownBlock ≠ some b → w3.heap[b]? = wr.heap[b]? := fun b hb hne => (hg.block b (by rw [World.size_alloc]; omega) (fun e => hne e.symm)).trans (heap_alloc_old wr o hb)
  have hq : w3.heap[q]? = some (.cells #[.int .i64 f, v] 24 (0, 0)) := (keep q (by omega) (vt _ _ _ h.cur (by decide))).trans h.cur
  have keep2 : ∀ b, b ≤ g → (w3.setCell ⟨q, 1, none⟩ v').heap[b]? = wr.heap[b]? := fun b hb => (Deep.blk_setCell_other w3 _ _ b (by show b ≠ q; omega)).trans (keep b (by omega) (fun e => by have := h.away b e; omega))
  refine ⟨hq, ⟨h.rf.stays (keep2 g (Nat.le_refl _)) (fun k hk => keep2 k (by omega)), ?_, (keep2 _ (by omega)).trans h.out, heap_at hq 1 v', ?_, ?_, lo, gq, by rw [World.size_setCell]; omega⟩⟩
  · have h1 : Below w.heap.size w (wr.alloc o) := h.below.alloc hsz o
    exact (h1.grown hg (by rw [World.size_alloc]; omega) (fun k e => (own_cells h.own k e).1)).setCell (by show w.heap.size ≤ q; omega) v'
  · rw [List.length_append, insV_append]
    exact own_keep hown fun b _ _ e => Deep.blk_setCell_other w3 _ _ b (fun e2 => by have e3 : b = q := e2; subst e3; rw [hq] at e; cases e)
  · intro b e
    rcases hv with hv | hv
    · exact h.away b (hv ▸ e)
    · rw [hv, World.size_alloc] at e
      injection e with e
      omega
theorem RI.fin {w wr : World} {q g : Nat} {f : Int} {v : Value} {s : List Ins × List Nat × Bool} (h : RI w q g wr f v s) (z : Int) (u : Value) :
    ((wr.setCell ⟨w.heap.size, 0, none⟩ (.int .i64 z)).setCell ⟨w.heap.size, 1, none⟩ u).heap[w.heap.size]? = some (.cells #[.int .i64 z, u] 24 (0, 0)) ∧
    ((wr.setCell ⟨w.heap.size, 0, none⟩ (.int .i64 z)).setCell ⟨w.heap.size, 1, none⟩ u).ownsRow w.heap.size 43 6 v s.1.length (insV s.1) ∧
    Below w.heap.size w ((wr.setCell ⟨w.heap.size, 0, none⟩ (.int .i64 z)).setCell ⟨w.heap.size, 1, none⟩ u) := by
  refine ⟨heap_at (heap_at h.out 0 _) 1 u, own_keep h.own fun b cur _ e => ?_, (h.below.setCell (by show w.heap.size ≤ w.heap.size; omega) _).setCell (by show w.heap.size ≤ w.heap.size; omega) _⟩
  have hne : b ≠ w.heap.size := fun e2 => by subst e2; rw [h.out] at e; cases e
  exact (Deep.blk_setCell_other _ _ _ b hne).trans (Deep.blk_setCell_other _ _ _ b hne)
/-- And the instruction that is read. -/
structure RJ (w : World) (q g z : Nat) (wr : World) (f : Int) (v : Value) (l : List Ins) (x : Ins × List Nat × Bool) : Prop where
  ri : RI w q g wr f v (l, x.2)
  ins : wr.heap[z]? = some (.cells x.1.vals.toArray 43 (0, 0))
  zlo : q < z
  zne : v.ownBlock ≠ some z
theorem RJ.step {w wr w2 : World} {q g z : Nat} {f : Int} {v : Value} {l : List Ins} {x : Ins × List Nat × Bool} {bs : List Nat} {bad : Bool} (h : RJ w q g z wr f v l x) (hr : Rfx w2 g g bs bad) (ho : OnlyG wr w2 g) : RJ w q g z w2 f v l (x.1, bs, bad) :=
  ⟨h.ri.step hr ho, (ho.at (Array.getElem?_eq_some_iff.1 h.ins).1 (by have := h.zlo; have := h.ri.gq; omega)).trans h.ins, h.zlo, h.zne⟩
theorem RJ.put {w wr : World} {q g z : Nat} {f : Int} {v : Value} {l : List Ins} {x : Ins × List Nat × Bool} (h : RJ w q g z wr f v l x) (o : Nat) (ho : 1 ≤ o ∧ o ≤ 5) (u : Int) : RJ w q g z (wr.setCell ⟨z, o, none⟩ (.int .i64 u)) f v l (x.1.set o u, x.2) := by
  have zlo := h.zlo
  have gq := h.ri.gq
  have lo := h.ri.lo
  have keep : ∀ b, b ≠ z → (wr.setCell ⟨z, o, none⟩ (.int .i64 u)).heap[b]? = wr.heap[b]? := fun b hb => Deep.blk_setCell_other wr _ _ b hb
  exact ⟨⟨h.ri.rf.stays (keep g (by omega)) (fun k hk => keep k (by omega)), h.ri.below.setCell (by show w.heap.size ≤ z; omega) _, (keep _ (by omega)).trans h.ri.out, (keep _ (by omega)).trans h.ri.cur, own_keep h.ri.own fun b _ e _ => keep b (fun e2 => by subst e2; exact h.zne e), h.ri.away, lo, gq, by rw [World.size_setCell]; exact h.ri.lt⟩, heap_set h.ins ho u, zlo, h.zne⟩
theorem RJ.start {w wr : World} {q g : Nat} {f : Int} {v : Value} {l : List Ins} {bs : List Nat} {bad : Bool} (h : RI w q g wr f v (l, bs, bad)) (b : Nat) : RJ w q g wr.heap.size (wr.alloc (.cells #[.int .i64 (b : Int), .int .i64 0, .int .i64 0, .int .i64 0, .int .i64 0, .int .i64 0] 43)) f v l ({ Ins.zero with op := (b : Int) }, bs, bad) :=
  ⟨h.later ((Below.refl _ wr).alloc (Nat.le_refl _) _), heap_alloc_new wr _, h.lt, fun e => by have := (own_cells h.own _ e).2.1; omega⟩
/-- What the walk of the rounds comes to, if the bytes are a good program's. -/
theorem rdec_known {xs : List Nat} (hs : ∀ b ∈ xs, b < 256) (hd : decOk xs = true) : ∃ (F : Int) (l : List Ins), chk F l = -2 ∧ xs = encP F.toNat l ∧ readP xs = (F, l, [], false) ∧ refc (rcount xs).1 = F ∧ (rcount xs).2.2 = false ∧
    refc (rcount (rcount xs).2.1).1 = (l.length : Int) ∧ (rcount (rcount xs).2.1).2.2 = false ∧ ∀ k, k ≤ l.length → takeGN refc k (rcount (rcount xs).2.1).2.1 false = (l.take k, encIs (l.drop k), false) := by
  obtain ⟨e, hc⟩ := dec_yes hs hd
  obtain ⟨hh, _⟩ := chk_good hc
  have hf := readP_fits xs hs
  obtain ⟨F, l, hF, hl⟩ : ∃ F l, F = (readP xs).1 ∧ l = (readP xs).2.1 := ⟨_, _, rfl, rfl⟩
  rw [← hF, ← hl] at e hc hh
  rw [← hl] at hf
  have hrd := read_back hc hf
  rw [← e] at hrd
  have e1 : rcount xs = (F.toNat, cntN l.length ++ encIs l, false) := by
    rw [e]; unfold encP; rw [List.append_assoc, rcount_cntN _ (by omega)]
  have e2 : rcount (cntN l.length ++ encIs l) = (l.length, encIs l, false) := rcount_cntN _ (by omega) _
  refine ⟨F, l, hc, e, hrd, ?_, by rw [e1], ?_, by rw [e1]; simp only []; rw [e2], fun k hk => ?_⟩
  · rw [e1]; simp only []; rw [refc_cv _ (by omega)]; omega
  · rw [e1]; simp only []; rw [e2]; simp only []; rw [refc_cv _ (by omega)]
  · rw [e1]; simp only []; rw [e2]; simp only []
    have := takes_back refc_cv l (good_small hc hf) [] k hk
    rw [List.append_nil, List.append_nil] at this
    exact this
theorem refc_fits (n : Nat) : Fits (refc n) := by unfold refc Fits; split <;> omega
theorem foldG_fits : ∀ (ls : List Nat) (s : Ins × List Nat × Bool), (∀ b ∈ s.2.1, b < 256) → Fits s.1.n → Fits (ls.foldl (stepG refc) s).1.n ∧ ∀ b ∈ (ls.foldl (stepG refc) s).2.1, b < 256
  | [], _, hs, h => ⟨h, hs⟩
  | l :: ls, s, hs, h => by
    rw [List.foldl_cons]
    refine foldG_fits ls _ (rest_small s.2.1 hs) ?_
    refine set_n _ _ _ h ?_
    split
    · exact unfoldN_fits _ (rcount_lt _ hs)
    · exact refc_fits _
theorem takeGN_fits (k : Nat) (bs : List Nat) (bad : Bool) (hs : ∀ b ∈ bs, b < 256) : (∀ x ∈ (takeGN refc k bs bad).1, Fits x.n) ∧ ∀ b ∈ (takeGN refc k bs bad).2.1, b < 256 := by
  induction k with
  | zero => exact ⟨(fun x hx => by cases hx), hs⟩
  | succ k ih =>
    have h1 : Fits (takeG refc (takeGN refc k bs bad).2.1 (takeGN refc k bs bad).2.2).1.n ∧ ∀ b ∈ (takeG refc (takeGN refc k bs bad).2.1 (takeGN refc k bs bad).2.2).2.1, b < 256 := foldG_fits _ _ (fun b hb => ih.2 b (List.mem_of_mem_drop hb)) (by show Fits 0; unfold Fits; decide)
    rw [takeGN]
    refine ⟨fun x hx => ?_, h1.2⟩
    rcases List.mem_append.1 hx with hx | hx
    · exact ih.1 x hx
    · rw [List.mem_singleton.1 hx]; exact h1.1
theorem takeGN_len (k : Nat) (bs : List Nat) (bad : Bool) : (takeGN refc k bs bad).1.length = k := by
  induction k with
  | zero => rfl
  | succ k ih => simp [takeGN, ih]
def takeGL (bs : List Nat) (bad : Bool) (k : Nat) : Ins × List Nat × Bool := ((shapeL (byteT bs : Int)).take k).foldl (stepG refc) (startI bs bad)
theorem takeGL_succ (bs : List Nat) (bad : Bool) (k : Nat) (hk : k < (shapeL (byteT bs : Int)).length) : takeGL bs bad (k + 1) = stepG refc (takeGL bs bad k) (shapeL (byteT bs : Int))[k] := by
  unfold takeGL
  rw [List.take_succ_eq_append_getElem hk, List.foldl_append]
  rfl
theorem takeGL_all (bs : List Nat) (bad : Bool) (k : Nat) (hk : (shapeL (byteT bs : Int)).length = k) : takeGL bs bad k = takeG refc bs bad := by
  unfold takeGL takeG
  rw [← hk, List.take_length]
end Go.Proofs.YtkeckjgihjpfbaaDoor

/- Layer 7: a line put to the program. -/
namespace Go.Proofs.YtkeckjgihjpfbaaDoor
set_option maxRecDepth 100000
open Go.RowKit
attribute [local go_sem ↓] Go.wp_at_zero Go.wp_at_succ

/-- The program that is read, so far. -/
structure PI (w : World) (g : Nat) (wr : World) (f : Int) (v : Value) (l : List Ins) : Prop where
  below : Below w.heap.size w wr
  cur : wr.heap[g]? = some (.cells #[.int .i64 f, v] 24 (0, 0))
  own : wr.ownsRow w.heap.size 43 6 v l.length (insV l)
  lo : w.heap.size < g
  out : wr.heap[w.heap.size]? = some (.cells #[.int .i64 0, .slice none 0 0] 24 (0, 0))
theorem PI.lt {w wr : World} {g : Nat} {f : Int} {v : Value} {l : List Ins} (h : PI w g wr f v l) : g < wr.heap.size := (Array.getElem?_eq_some_iff.1 h.cur).1
theorem PI.later {w wr w2 : World} {g : Nat} {f : Int} {v : Value} {l : List Ins} (h : PI w g wr f v l) (hb : Below wr.heap.size wr w2) : PI w g w2 f v l :=
  ⟨h.below.trans (hb.mono h.below.size), (hb.block g h.lt).trans h.cur, own_keep h.own fun b _ _ e => hb.block b (Array.getElem?_eq_some_iff.1 e).1, h.lo, (hb.block _ (Array.getElem?_eq_some_iff.1 h.out).1).trans h.out⟩
theorem PI.setF {w wr : World} {g : Nat} {f : Int} {v : Value} {l : List Ins} (h : PI w g wr f v l) (z : Int) : PI w g (wr.setCell ⟨g, 0, none⟩ (.int .i64 z)) z v l :=
  ⟨h.below.setCell (p := ⟨g, 0, none⟩) (Nat.le_of_lt h.lo) _, heap_at h.cur 0 _, own_keep h.own fun b _ _ e => Deep.blk_setCell_other _ _ _ b (fun e2 => by have e3 : b = g := e2; subst e3; rw [h.cur] at e; cases e), h.lo, (Deep.blk_setCell_other _ _ _ _ (fun e2 => by have e3 : w.heap.size = g := e2; have := h.lo; omega)).trans h.out⟩
theorem PI.not {w wr : World} {g : Nat} {f : Int} {v : Value} {l : List Ins} (h : PI w g wr f v l) {b : Nat} {cs : Array Value} (hb : wr.heap[b]? = some (.cells cs 24 (0, 0))) : v.ownBlock ≠ some b := fun e2 => by
  obtain ⟨_, _, c2, h2⟩ := own_cells h.own b e2
  rw [hb] at h2
  injection h2 with h2
  injection h2 with _ h2
  exact absurd h2 (by decide)
theorem PI.push {w wr w3 : World} {g : Nat} {f : Int} {v v' : Value} {l : List Ins} {x : Ins} {o : Obj} (h : PI w g wr f v l) (hown : w3.ownsRow w.heap.size 43 6 v' (l.length + 1) (insV l ++ insV [x]))
    (hg : (wr.alloc o).grownBy w3 v.ownBlock) : w3.heap[g]? = some (.cells #[.int .i64 f, v] 24 (0, 0)) ∧ PI w g (w3.setCell ⟨g, 1, none⟩ v') f v' (l ++ [x]) := by
  have keep : ∀ (b : Nat) (cs : Array Value), wr.heap[b]? = some (.cells cs 24 (0, 0)) → w3.heap[b]? = some (.cells cs 24 (0, 0)) := fun b cs e => by
    have hl := (Array.getElem?_eq_some_iff.1 e).1
    exact (hg.block b (by rw [World.size_alloc]; omega) (fun e2 => h.not e e2.symm)).trans ((heap_alloc_old wr o hl).trans e)
  have hq := keep g _ h.cur
  refine ⟨hq, ?_, heap_at hq 1 v', ?_, h.lo, (Deep.blk_setCell_other _ _ _ _ (fun e2 => by have e3 : w.heap.size = g := e2; have := h.lo; omega)).trans (keep _ _ h.out)⟩
  · have h1 : Below w.heap.size w (wr.alloc o) := h.below.alloc h.below.size o
    exact (h1.grown hg (by have := h.below.size; rw [World.size_alloc]; omega) (fun k e => (own_cells h.own k e).1)).setCell (p := ⟨g, 1, none⟩) (Nat.le_of_lt h.lo) v'
  · rw [List.length_append, insV_append]
    exact own_keep hown fun b _ _ e => Deep.blk_setCell_other w3 _ _ b (fun e2 => by have e3 : b = g := e2; subst e3; rw [hq] at e; cases e)
theorem split_any (row : List UInt8) (hl : row.length ≤ 100000) (w : World) (hA : AU w) : Calls Tryd.prog 84 #[.string (tx row), .string { data := #[32] }] w fun e w' =>
    e = .returned (.slice (some ⟨w.heap.size, 0, none⟩) (splitC 32 row).length (splitC 32 row).length) ∧ w' = w.alloc (.cells (txs (splitC 32 row)).toArray 9) := by
  obtain ⟨m, hm⟩ := hA.max
  have h := Tryd.strings_Split (tx row) { data := #[32] } m w (by rw [tx_size]; omega) hm (by decide)
  obtain ⟨h1, h2⟩ := split_is 32 _ (tx row) (Nat.le_refl _)
  rw [tx_data] at h1 h2
  have e : (tx [32] : ByteArray) = { data := #[32] } := rfl
  rw [e] at h1 h2
  rw [h1, h2, List.map_map] at h
  exact h
theorem rdv_words (w : World) (ws : List (List UInt8)) (_ : 0 < ws.length) : Rdv (w.alloc (.cells (txs ws).toArray 9)) (some ⟨w.heap.size, 0, none⟩) ws.length 1 (txs ws) := by
  refine ⟨by simp [txs], fun _ => ⟨_, _, rfl, fun j u hj => ?_⟩⟩
  rw [cell_of_row _ _ _ _ 9 (0, 0) (heap_alloc_new w _), Nat.zero_add, List.getElem?_toArray]
  exact hj
def FuelE (row : List UInt8) (w : World) (g : Nat) (v : Value) (l : List Ins) (w' : World) (e : Ending) : Prop :=
  ∃ f, e = .returned (.bool (fuelOf row).isSome) ∧ PI w g w' f v l ∧ ∀ z, fuelOf row = some z → f = z
def InsE (row : List UInt8) (w : World) (g : Nat) (f : Int) (l : List Ins) (w' : World) (e : Ending) : Prop :=
  ∃ (x : Ins) (b : Bool) (v' : Value), e = .returned (.bool b) ∧ insOf row = (if b then some x else none) ∧ PI w g w' f v' (l ++ [x])
theorem fuel_two {row a b : List UInt8} (h : splitC 32 row = [a, b]) : fuelOf row = if a = [102, 117, 101, 108] then numO b else none := by rw [fuel_words, h]
theorem fuel_many {row : List UInt8} (h : (splitC 32 row).length ≠ 2) : fuelOf row = none := by
  rw [fuel_words]
  match hs : splitC 32 row, h with
  | [], _ => rfl
  | [_], _ => rfl
  | [_, _], h => simp at h
  | _ :: _ :: _ :: _, _ => rfl
set_option maxHeartbeats 8000000 in
theorem take_fuel (row : List UInt8) (hln : row.length ≤ 100000) (w : World) (g : Nat) (f : Int) (v : Value) (l : List Ins) (wr : World) (hA : AU w) (hp : PI w g wr f v l) :
    Calls Tryd.prog 58 #[.pointer (some ⟨g, 0, none⟩), .int .i64 0, .string (tx row)] wr fun e w' => FuelE row w g v l w' e := by
  have hsl := splitC_len 32 row
  have HSP := Lib.hid (split_any row hln wr (hA.ext hp.below))
  obtain ⟨ws, hws⟩ : ∃ ws, ws = splitC 32 row := ⟨_, rfl⟩
  rw [← hws] at HSP hsl
  have hb1 := (Below.refl wr.heap.size wr).alloc (Nat.le_refl _) (.cells (txs ws).toArray 9)
  have HP1 := Lib.hid (hp.later hb1)
  have HA1 := Lib.hid (hA.ext (hp.below.trans (hb1.mono hp.below.size)))
  obtain ⟨T, hT⟩ : ∃ T, T = tx row := ⟨_, rfl⟩
  rw [← hT] at HSP ⊢
  by_cases h2 : ws.length = 2
  · obtain ⟨a, b, rfl⟩ : ∃ a b, ws = [a, b] := by
      match ws, h2 with
      | [a, b], _ => exact ⟨a, b, rfl⟩
    have hfu := fuel_two hws.symm
    have hbl : b.length ≤ 100000 := by have := hsl.2 b (by simp); omega
    have c0 : (wr.alloc (.cells (txs [a, b]).toArray 9)).cell? ⟨wr.heap.size, 0, none⟩ = some (.string (tx a)) := cell_of_row _ _ 0 _ 9 (0, 0) (heap_alloc_new wr _)
    have c1 : (wr.alloc (.cells (txs [a, b]).toArray 9)).cell? ⟨wr.heap.size, 1, none⟩ = some (.string (tx b)) := cell_of_row _ _ 1 _ 9 (0, 0) (heap_alloc_new wr _)
    have HN := Lib.hid (number_any b hbl _ HA1.out)
    have hte : ((tx a).toList == [102, 117, 101, 108]) = decide (a = [102, 117, 101, 108]) := by
      rw [tx_toList]
      by_cases h : a = [102, 117, 101, 108]
      · rw [h]; rfl
      · rw [decide_eq_false h]; exact beq_eq_false_iff_ne.2 h
    obtain ⟨W1, hW1⟩ : ∃ W1, W1 = wr.alloc (.cells (txs [a, b]).toArray 9) := ⟨_, rfl⟩
    rw [← hW1] at HSP HP1 c0 c1 HN
    obtain ⟨ta, hta⟩ : ∃ t, t = tx a := ⟨_, rfl⟩
    obtain ⟨tb, htb⟩ : ∃ t, t = tx b := ⟨_, rfl⟩
    rw [← hta] at c0 hte
    rw [← htb] at c1 HN
    obtain ⟨O, hO⟩ : ∃ O, O = numO b := ⟨_, rfl⟩
    rw [← hO] at HN hfu
    unfold optV at HN
    have HSP := Lib.hid (show Calls Tryd.prog 84 #[.string T, .string { data := #[32] }] wr fun e w' => e = .returned (.slice (some ⟨wr.heap.size, 0, none⟩) 2 2) ∧ w' = W1 from HSP.out)
    by_cases ha : a = [102, 117, 101, 108]
    · rw [decide_eq_true ha] at hte
      rw [if_pos ha] at hfu
      have HFU := Lib.hid hfu
      clear hws hsl hT h2 hbl hW1 hta htb hO ha hfu hln hA hp hb1 HA1
      go_enter Tryd.func58, Tryd.ntmps58
      go_wp2_with fail
      refine Calls.mono HSP.out ?_
      rintro e w1 ⟨rfl, rfl⟩
      go_wp2_with fail
      refine Calls.mono HN.out ?_
      rintro e w2 ⟨rfl, hb2⟩
      have HP2 := Lib.hid (HP1.out.later hb2)
      have z0 : w2.cell? ⟨g, 0, none⟩ = some (.int .i64 f) := cell_of_row w2 _ 0 _ 24 (0, 0) HP2.out.cur
      have zf : w2.frozen? ⟨g, 0, none⟩ = false := by simp [World.frozen?, HP2.out.cur]
      clear hb2 c0 c1
      go_wp2_with fail
      go_ret
      exact ⟨O.getD 0, by rw [HFU.out]; rfl, HP2.out.setF _, fun z h => by rw [HFU.out] at h; rw [h]; rfl⟩
    · rw [decide_eq_false ha] at hte
      rw [if_neg ha] at hfu
      have HFU := Lib.hid hfu
      clear hws hsl hT h2 hbl hW1 hta htb hO ha hfu hln hA hp hb1 HA1 HN
      go_enter Tryd.func58, Tryd.ntmps58
      go_wp2_with fail
      refine Calls.mono HSP.out ?_
      rintro e w1 ⟨rfl, rfl⟩
      go_wp2_with fail
      go_ret
      exact ⟨f, by rw [HFU.out]; rfl, HP1.out, fun z h => by rw [HFU.out] at h; cases h⟩
  · have HFU := Lib.hid (fuel_many (row := row) (by rw [← hws]; exact h2))
    have hn : ws.length ≤ 100001 := by have := hsl.1; omega
    have d1 : ((ws.length : Int) != 2) = true := by rw [bne_iff_ne]; omega
    clear hws hsl hT h2 hln hA hp hb1 HA1
    go_enter Tryd.func58, Tryd.ntmps58
    go_wp2_with fail
    refine Calls.mono HSP.out ?_
    rintro e w1 ⟨rfl, rfl⟩
    go_wp2_with fail
    go_ret
    exact ⟨f, by rw [HFU.out]; rfl, HP1.out, fun z h => by rw [HFU.out] at h; cases h⟩
end Go.Proofs.YtkeckjgihjpfbaaDoor

/- Layer 7: an instruction's line put to the program. -/
namespace Go.Proofs.YtkeckjgihjpfbaaDoor
set_option maxRecDepth 100000
open Go.RowKit
attribute [local go_sem ↓] Go.wp_at_zero Go.wp_at_succ

theorem PI.pushD {w wr w3 : World} {g : Nat} {f : Int} {v v' : Value} {l : List Ins} {x : Ins} {o : Obj} (h : PI w g wr f v l) (hown : w3.ownsRow w.heap.size 43 6 v' (l.length + 1) (insV l ++ insV [x]))
    (hg : (wr.alloc o).drew.grownBy w3 v.ownBlock) : w3.heap[g]? = some (.cells #[.int .i64 f, v] 24 (0, 0)) ∧ PI w g (w3.setCell ⟨g, 1, none⟩ v') f v' (l ++ [x]) := by
  have keep : ∀ (b : Nat) (cs : Array Value), wr.heap[b]? = some (.cells cs 24 (0, 0)) → w3.heap[b]? = some (.cells cs 24 (0, 0)) := fun b cs e => by
    have hl := (Array.getElem?_eq_some_iff.1 e).1
    exact (hg.block b (by show b < (wr.alloc o).heap.size; rw [World.size_alloc]; omega) (fun e2 => h.not e e2.symm)).trans ((heap_alloc_old wr o hl).trans e)
  have hq := keep g _ h.cur
  refine ⟨hq, ?_, heap_at hq 1 v', ?_, h.lo, (Deep.blk_setCell_other _ _ _ _ (fun e2 => by have e3 : w.heap.size = g := e2; have := h.lo; omega)).trans (keep _ _ h.out)⟩
  · have h1 : Below w.heap.size w (wr.alloc o) := h.below.alloc h.below.size o
    exact (h1.drew.grown hg (by have := h.below.size; show w.heap.size ≤ (wr.alloc o).heap.size; rw [World.size_alloc]; omega) (fun k e => (own_cells h.own k e).1)).setCell (p := ⟨g, 1, none⟩) (Nat.le_of_lt h.lo) v'
  · rw [List.length_append, insV_append]
    exact own_keep hown fun b _ _ e => Deep.blk_setCell_other w3 _ _ b (fun e2 => by have e3 : b = g := e2; subst e3; rw [hq] at e; cases e)
theorem own_drew {w : World} {B e size n : Nat} {v : Value} {xs : List Value} (h : w.ownsRow B e size v n xs) : w.drew.ownsRow B e size v n xs := h
theorem rdv_drew {w : World} {A : Option Addr} {n size : Nat} {xs : List Value} (h : Rdv w A n size xs) : Rdv w.drew A n size xs := h
set_option maxHeartbeats 8000000 in
theorem take_ins (row : List UInt8) (hln : row.length ≤ 100000) (at_ : Nat) (hat : 0 < at_) (w : World) (g : Nat) (f : Int) (v : Value) (l : List Ins) (hll : l.length ≤ 100000) (wr : World) (hA : AU w) (hp : PI w g wr f v l) :
    Calls Tryd.prog 58 #[.pointer (some ⟨g, 0, none⟩), .int .i64 (at_ : Int), .string (tx row)] wr fun e w' => InsE row w g f l w' e := by
  have hsl := splitC_len 32 row
  have HSP := split_any row hln wr (hA.ext hp.below)
  obtain ⟨w0, ws, hws, _⟩ := splitC_join 32 row
  rw [hws] at HSP hsl
  have hb1 := (Below.refl wr.heap.size wr).alloc (Nat.le_refl _) (.cells (txs (w0 :: ws)).toArray 9)
  have HP1 := Lib.hid (hp.later hb1)
  have HCD := code_any row w0 ws hws hln (some ⟨wr.heap.size, 0, none⟩) (w0 :: ws).length (w0 :: ws).length (wr.alloc (.cells (txs (w0 :: ws)).toArray 9)) (hA.ext (hp.below.trans (hb1.mono hp.below.size))) (rdv_words wr (w0 :: ws) (by simp)) (fun v hv => by have := hsl.2 v (List.mem_cons_of_mem _ hv); omega)
  obtain ⟨T, hT⟩ : ∃ T, T = tx row := ⟨_, rfl⟩
  rw [← hT] at HSP ⊢
  obtain ⟨W1, hW1⟩ : ∃ W1, W1 = wr.alloc (.cells (txs (w0 :: ws)).toArray 9) := ⟨_, rfl⟩
  rw [← hW1] at HSP HP1 HCD
  obtain ⟨N, hN⟩ : ∃ N, N = (w0 :: ws).length := ⟨_, rfl⟩
  rw [← hN] at HSP HCD
  have HSP := Lib.hid HSP
  have HCD := Lib.hid HCD
  have d1 : decide ((0 : Int) < (at_ : Int)) = true := decide_eq_true (by omega)
  have d2 : decide (0 < at_) = true := decide_eq_true hat
  clear hsl hws hb1 hT hW1 hN hln hA hp
  go_enter Tryd.func58, Tryd.ntmps58
  go_wp2_with fail
  refine Calls.mono HSP.out ?_
  rintro e w1 ⟨rfl, rfl⟩
  go_wp2_with fail
  refine Calls.mono HCD.out ?_
  rintro e w2 ⟨x, b, rfl, hio, hb2⟩
  have hp2 := HP1.out.later hb2
  have hbx := (Below.refl w2.heap.size w2).alloc (Nat.le_refl _) (.cells #[.int .i64 x.op, .int .i64 x.a, .int .i64 x.b, .int .i64 x.c, .int .i64 x.t, .int .i64 x.n] 43)
  have hp3 := hp2.later hbx
  have hnx := heap_alloc_new w2 (.cells #[.int .i64 x.op, .int .i64 x.a, .int .i64 x.b, .int .i64 x.c, .int .i64 x.t, .int .i64 x.n] 43)
  have HIO := Lib.hid hio
  unfold Ins.val
  go_wp2_with fail
  obtain ⟨W3, hW3⟩ : ∃ W3, W3 = w2.alloc (.cells #[.int .i64 x.op, .int .i64 x.a, .int .i64 x.b, .int .i64 x.c, .int .i64 x.t, .int .i64 x.n] 43) := ⟨_, rfl⟩
  rw [← hW3] at hp3 hnx ⊢
  have HP3 := Lib.hid hp3
  obtain ⟨A3, c3, rfl, _, _, _⟩ := rdv_own hp3.own
  have x0 : W3.cell? ⟨w2.heap.size, 0, none⟩ = some (.int .i64 x.op) := cell_of_row W3 _ 0 _ 43 (0, 0) hnx
  have x1 : W3.cell? ⟨w2.heap.size, 1, none⟩ = some (.int .i64 x.a) := cell_of_row W3 _ 1 _ 43 (0, 0) hnx
  have x2 : W3.cell? ⟨w2.heap.size, 2, none⟩ = some (.int .i64 x.b) := cell_of_row W3 _ 2 _ 43 (0, 0) hnx
  have x3 : W3.cell? ⟨w2.heap.size, 3, none⟩ = some (.int .i64 x.c) := cell_of_row W3 _ 3 _ 43 (0, 0) hnx
  have x4 : W3.cell? ⟨w2.heap.size, 4, none⟩ = some (.int .i64 x.t) := cell_of_row W3 _ 4 _ 43 (0, 0) hnx
  have x5 : W3.cell? ⟨w2.heap.size, 5, none⟩ = some (.int .i64 x.n) := cell_of_row W3 _ 5 _ 43 (0, 0) hnx
  have q1 : W3.cell? ⟨g, 1, none⟩ = some (.slice A3 l.length c3) := cell_of_row W3 _ 1 _ 24 (0, 0) hp3.cur
  have q2 := (World.cell?_alloc_lt W3 (.cells #[.int .i64 x.op, .int .i64 x.a, .int .i64 x.b, .int .i64 x.c, .int .i64 x.t, .int .i64 x.n] 43) ⟨g, 1, none⟩ (World.block_lt_of_cell? W3 _ q1)).trans q1
  have hsz := hp3.below.size
  clear hio hb2 hp2 hbx hp3 hnx hW3
  go_region_law (first | (refine step_append_rowv elemC (by simp [Region.wanted]) (.tmp 25) (.tmp 27) (by rfl) w.heap.size (.slice A3 l.length c3) l.length (insV l) (by rfl) (own_drew (HP3.out.own.alloc _)) (some ⟨W3.heap.size, 0, none⟩) 1 1 (insV [x]) (by rfl) (rdv_drew (rdv_ins W3 x)) (insV_one _) (by intro h; cases h) (by unfold maxLen; omega) (by omega) (by show w.heap.size ≤ (W3.alloc _).heap.size; rw [World.size_alloc]; omega) ?_; intro v6 w6 hown6 hg6 hb6; obtain ⟨A6, c6, rfl, _, _, _⟩ := rdv_own hown6; obtain ⟨hq6, hp6⟩ := PI.pushD HP3.out hown6 hg6; have e1 : w6.cell? ⟨g, 1, none⟩ = some (.slice A3 l.length c3) := cell_of_row w6 _ 1 _ 24 (0, 0) hq6; have f1 : w6.frozen? ⟨g, 1, none⟩ = false := by simp [World.frozen?, hq6]))
  all_goals
    have HP6 := Lib.hid hp6
    clear hp6 hq6 hown6 hg6 hb6 e1 f1
    go_wp2_with fail
    go_ret
    exact ⟨x, b, _, rfl, HIO.out, HP6.out⟩
end Go.Proofs.YtkeckjgihjpfbaaDoor

/- Layer 7: asm.Parse. -/
namespace Go.Proofs.YtkeckjgihjpfbaaDoor
set_option maxRecDepth 100000
open Go.RowKit
attribute [local go_sem ↓] Go.wp_at_zero Go.wp_at_succ

/-- What a text's lines come to: where one is wrong, or the program. -/
noncomputable def parseG : Nat → Int → List Ins → List (List UInt8) → Nat ⊕ (Int × List Ins)
  | at_, _, _, [] => .inl at_
  | at_, f, l, [t] => if at_ ≠ 0 ∧ t = [] then .inr (f, l) else .inl at_
  | at_, f, l, r :: r2 :: rs => if at_ = 0 then (match fuelOf r with | some z => parseG 1 z l (r2 :: rs) | none => .inl 0) else (match insOf r with | some x => parseG (at_ + 1) f (l ++ [x]) (r2 :: rs) | none => .inl at_)
noncomputable def parseT (text : List UInt8) : Nat ⊕ (Int × List Ins) := parseG 0 0 [] (splitC 10 text)
theorem parseG_first (f : Int) (l : List Ins) (a r : List UInt8) : parseG 0 f l (a :: splitC 10 r) = match fuelOf a with | some z => parseG 1 z l (splitC 10 r) | none => .inl 0 := by
  cases h : splitC 10 r with
  | nil => exact absurd h (splitC_ne 10 r)
  | cons r2 rs => rw [parseG, if_pos rfl]
theorem parseG_next (k : Nat) (hk : k ≠ 0) (f : Int) (l : List Ins) (a r : List UInt8) : parseG k f l (a :: splitC 10 r) = match insOf a with | some x => parseG (k + 1) f (l ++ [x]) (splitC 10 r) | none => .inl k := by
  cases h : splitC 10 r with
  | nil => exact absurd h (splitC_ne 10 r)
  | cons r2 rs => rw [parseG, if_neg hk]
def FormAt (w : World) (b : Nat) (v : Int) : Prop := w.heap[b]? = some (.cells #[.int .i64 v, .iface 36 (.int .i64 2)] 75 (0, 0))
def ParseE (R : Nat ⊕ (Int × List Ins)) (w w' : World) (e : Ending) : Prop :=
  match R with
  | .inl i => ∃ b, e = .returned (.tuple #[.agg #[.int .i64 0, .slice none 0 0], .iface 72 (.pointer (some ⟨b, 0, none⟩))]) ∧ w.heap.size ≤ b ∧ FormAt w' b i
  | .inr (f, l) => (chk f l = -2 ∧ ∃ A c, e = .returned (.tuple #[.agg #[.int .i64 f, .slice A l.length c], .nilIface]) ∧ Codes w' A l.length l) ∨
      (chk f l ≠ -2 ∧ ∃ b, e = .returned (.tuple #[.agg #[.int .i64 0, .slice none 0 0], .iface 72 (.pointer (some ⟨b, 0, none⟩))]) ∧ w.heap.size ≤ b ∧ FaultAt w' b (chk f l))
theorem results30 (w : World) (g : Nat) (f : Int) (A : Option Addr) (n c : Nat) (v : Value) (h : w.heap[g]? = some (.cells #[.int .i64 f, .slice A n c] 24 (0, 0))) (tmps : Array Value) (h2 : tmps.getD 2 undef = .pointer (some ⟨g, 0, none⟩)) (h3 : tmps.getD 3 undef = v) :
    (results Tryd.f30 tmps).run Tryd.prog w = .ok (.tuple #[.agg #[.int .i64 f, .slice A n c], v]) w := by
  have h2' : tmps[2]?.getD undef = .pointer (some ⟨g, 0, none⟩) := by simpa using h2
  have h3' : tmps[3]?.getD undef = v := by simpa using h3
  have c0 : w.cell? ⟨g, 0, none⟩ = some (.int .i64 f) := cell_of_row w g 0 _ 24 (0, 0) h
  have c1 : w.cell? ⟨g, 1, none⟩ = some (.slice A n c) := cell_of_row w g 1 _ 24 (0, 0) h
  have e : Tryd.f30.results = #[.cell 2 24, .tmp 3] := Tryd.results30
  have hl : (loadVar 24 ⟨g, 0, none⟩).run Tryd.prog w = .ok (.agg #[.int .i64 f, .slice A n c]) w := by simp [go_sem, c0, c1]
  simp only [results, e]
  simp [asAddr, h2', hl, h3']
/-- Both cells of a program's box. -/
def set2 (w : World) (g : Nat) (z : Int) (u : Value) : World := (w.setCell ⟨g, 0, none⟩ (.int .i64 z)).setCell ⟨g, 1, none⟩ u
theorem set2_at {w : World} {g : Nat} {f : Int} {v : Value} (h : w.heap[g]? = some (.cells #[.int .i64 f, v] 24 (0, 0))) (z : Int) (u : Value) : (set2 w g z u).heap[g]? = some (.cells #[.int .i64 z, u] 24 (0, 0)) := heap_at (heap_at h 0 _) 1 u
theorem set2_other {w : World} {g : Nat} (z : Int) (u : Value) (b : Nat) (hb : b ≠ g) : (set2 w g z u).heap[b]? = w.heap[b]? := (Deep.blk_setCell_other _ _ _ b hb).trans (Deep.blk_setCell_other _ _ _ b hb)
theorem set2_below {B : Nat} {w w1 : World} (h : Below B w w1) (g : Nat) (hg : B ≤ g) (z : Int) (u : Value) : Below B w (set2 w1 g z u) := (h.setCell (p := ⟨g, 0, none⟩) hg _).setCell (p := ⟨g, 1, none⟩) hg _
/-- What a fault's exit leaves. -/
theorem fault_end {w wr : World} {i : Int} (hb : Below w.heap.size w wr) (hou : wr.heap[w.heap.size]? = some (.cells #[.int .i64 0, .slice none 0 0] 24 (0, 0))) :
    (set2 (wr.alloc (.cells #[.int .i64 i, .iface 36 (.int .i64 2)] 75)) w.heap.size 0 (.slice none 0 0)).heap[w.heap.size]? = some (.cells #[.int .i64 0, .slice none 0 0] 24 (0, 0)) ∧
    FormAt (set2 (wr.alloc (.cells #[.int .i64 i, .iface 36 (.int .i64 2)] 75)) w.heap.size 0 (.slice none 0 0)) wr.heap.size i ∧ Below w.heap.size w (set2 (wr.alloc (.cells #[.int .i64 i, .iface 36 (.int .i64 2)] 75)) w.heap.size 0 (.slice none 0 0)) := by
  have hlt := (Array.getElem?_eq_some_iff.1 hou).1
  refine ⟨set2_at ((heap_alloc_old wr _ hlt).trans hou) _ _, ?_, set2_below (hb.alloc hb.size _) _ (Nat.le_refl _) _ _⟩
  exact (set2_other _ _ _ (by omega)).trans (heap_alloc_new wr _)
theorem out_facts {w wr : World} (hou : wr.heap[w.heap.size]? = some (.cells #[.int .i64 0, .slice none 0 0] 24 (0, 0))) (o : Obj) :
    (wr.alloc o).cell? ⟨w.heap.size, 0, none⟩ = some (.int .i64 0) ∧ (wr.alloc o).cell? ⟨w.heap.size, 1, none⟩ = some (.slice none 0 0) ∧ (wr.alloc o).frozen? ⟨w.heap.size, 0, none⟩ = false ∧ (wr.alloc o).frozen? ⟨w.heap.size, 1, none⟩ = false := by
  have hlt := (Array.getElem?_eq_some_iff.1 hou).1
  have h : (wr.alloc o).heap[w.heap.size]? = some (.cells #[.int .i64 0, .slice none 0 0] 24 (0, 0)) := (heap_alloc_old wr o hlt).trans hou
  exact ⟨cell_of_row _ _ 0 _ 24 (0, 0) h, cell_of_row _ _ 1 _ 24 (0, 0) h, by simp [World.frozen?, h], by simp [World.frozen?, h]⟩
theorem codes_own {w : World} {B n c : Nat} {A : Option Addr} {l : List Ins} (h : w.ownsRow B 43 6 (.slice A n c) n (insV l)) (hl : l.length = n) : Codes w A n l := by
  obtain ⟨_, _, e, hr, _, _⟩ := rdv_own h
  injection e with e1 _ e2
  subst e1 e2
  exact ⟨hl, hr⟩
def strLen : Value → Nat
  | .string s => s.size
  | _ => 0
theorem cut_any (s : List UInt8) (hl : s.length ≤ 100000) (w : World) (hA : AU w) : Calls Tryd.prog 57 #[.string (tx s), .string { data := #[10] }] w fun e w' =>
    e = .returned (.tuple #[.string (tx (Lib.cut s [10]).1), .string (tx (Lib.cut s [10]).2.1), .bool (Lib.cut s [10]).2.2]) ∧ Below w.heap.size w w' := by
  obtain ⟨m, hm⟩ := hA.max
  have h := Tryd.strings_Cut (tx s) { data := #[10] } m w (by rw [tx_size]; omega) hm
  rw [tx_data] at h
  refine h.mono fun e w' ⟨h1, n, h2⟩ => ⟨h1, by rw [h2]; exact below_drewN' (Below.refl _ w) n⟩
theorem tx_empty (t : List UInt8) : (tx t).toList.isEmpty = t.isEmpty := by rw [tx_toList]
def startP (w : World) : World := (w.alloc (.cells #[.int .i64 0, .slice none 0 0] 24)).alloc (.cells #[.int .i64 0, .slice none 0 0] 24)
theorem startP_facts (w : World) : PI w (w.heap.size + 1) (startP w) 0 (.slice none 0 0) [] := by
  unfold startP
  have h := heap_alloc_new (w.alloc (.cells #[.int .i64 0, .slice none 0 0] 24)) (.cells #[.int .i64 0, .slice none 0 0] 24)
  rw [World.size_alloc] at h
  have h2 := (heap_alloc_old (w.alloc (.cells #[.int .i64 0, .slice none 0 0] 24)) (.cells #[.int .i64 0, .slice none 0 0] 24) (by simp)).trans (heap_alloc_new w (.cells #[.int .i64 0, .slice none 0 0] 24))
  exact ⟨((Below.refl _ w).alloc (Nat.le_refl _) _).alloc (by simp) _, h, ⟨rfl, .inl ⟨rfl, rfl⟩⟩, by omega, h2⟩
set_option maxHeartbeats 16000000 in
theorem parse_any (text : List UInt8) (hln : text.length ≤ 100000) (w : World) (hA : AU w) : Calls Tryd.prog 30 #[.string (tx text)] w fun e w' => ParseE (parseT text) w w' e ∧ Below w.heap.size w w' := by
  have HP0 := Lib.hid (startP_facts w)
  have HA := Lib.hid hA
  obtain ⟨R, hR⟩ : ∃ R, R = parseT text := ⟨_, rfl⟩
  have HR0 := Lib.hid (show parseG 0 0 [] (splitC 10 text) = R by rw [hR]; rfl)
  rw [← hR]
  obtain ⟨N, hN⟩ : ∃ N, N = text.length := ⟨_, rfl⟩
  have HN := Lib.hid hN
  have hN5 : N ≤ 100000 := by omega
  clear hA hR hN hln
  go_enter Tryd.func30, Tryd.ntmps30
  go_wp2_with fail
  go_loopw [0, 5] (fun s i wr => ∃ (k : Nat) (t : List UInt8) (f : Int) (v : Value) (l : List Ins), s = .string (tx t) ∧ i = .int .i64 (k : Int) ∧ k + t.length ≤ N ∧ l.length ≤ k ∧ parseG k f l (splitC 10 t) = R ∧ PI w (w.heap.size + 1) wr f v l) (fun s _ _ => strLen s)
  case atStart => exact ⟨0, text, 0, _, [], rfl, rfl, by rw [HN.out]; omega, by simp, HR0.out, HP0.out⟩
  case round =>
    obtain ⟨k, t, f, v, l, rfl, rfl, hkt, hlk, hpg, hpi⟩ := hrel
    have HPG := Lib.hid hpg
    have HPI := Lib.hid hpi
    have HCT := Lib.hid (cut_any t (by omega) wr (HA.out.ext hpi.below))
    have hci := cut_is 10 t
    clear hpg hpi
    by_cases h0 : k = 0
    · subst h0
      rcases hci with ⟨hcut, hsp⟩ | ⟨a, r, hcut, hsp, hrl, hal⟩
      · have hct := HCT.out
        rw [hcut] at hct
        have hct2 : Calls Tryd.prog 57 #[.string (tx t), .string { data := #[10] }] wr fun e w' => e = .returned (.tuple #[.string (tx t), .string { data := #[] }, .bool false]) ∧ Below wr.heap.size wr w' := hct
        have HRR := Lib.hid (show R = .inl 0 by rw [← HPG.out, hsp]; rfl)
        obtain ⟨T, hT⟩ : ∃ T, T = tx t := ⟨_, rfl⟩
        rw [← hT] at hct2
        rw [← hT]
        have HCT2 := Lib.hid hct2
        clear hct hct2 hcut hsp hT HCT
        go_wp2_with fail
        refine Calls.mono HCT2.out ?_
        rintro e w1 ⟨rfl, hb1⟩
        have HP1 := Lib.hid (HPI.out.later hb1)
        clear hb1
        obtain ⟨o0, o1, q0, q1⟩ := out_facts HP1.out.out (.cells #[.int .i64 0, .iface 36 (.int .i64 2)] 75)
        go_wp2_with fail
        obtain ⟨r1, r2, r3⟩ := fault_end (i := 0) HP1.out.below HP1.out.out
        exact bodyPost_ret (results30 _ _ 0 none 0 0 _ r1 _ rfl rfl) rfl ⟨by rw [HRR.out]; exact ⟨_, rfl, HP1.out.below.size, r2⟩, r3⟩
      · have hct := HCT.out
        rw [hcut] at hct
        have hct2 : Calls Tryd.prog 57 #[.string (tx t), .string { data := #[10] }] wr fun e w' => e = .returned (.tuple #[.string (tx a), .string (tx r), .bool true]) ∧ Below wr.heap.size wr w' := hct
        have hpg := HPG.out
        rw [hsp] at hpg
        have HPG2 := Lib.hid hpg
        have HAL := Lib.hid (show a.length ≤ 100000 by omega)
        have HRT := Lib.hid (show r.length + 1 ≤ t.length by omega)
        have hlr : (tx r).size < (tx t).size := by rw [tx_size, tx_size]; omega
        have HTK := Lib.hid (fun (W : World) (h : Below wr.heap.size wr W) => take_fuel a HAL.out w (w.heap.size + 1) f v l W HA.out (HPI.out.later h))
        obtain ⟨T, hT⟩ : ∃ T, T = tx t := ⟨_, rfl⟩
        obtain ⟨TA, hTA⟩ : ∃ T, T = tx a := ⟨_, rfl⟩
        obtain ⟨TR, hTR⟩ : ∃ T, T = tx r := ⟨_, rfl⟩
        have HTR := Lib.hid hTR
        rw [← hT, ← hTA, ← hTR] at hct2
        rw [← hTR, ← hT] at hlr
        rw [← hTA] at HTK
        rw [← hT]
        have HCT2 := Lib.hid hct2
        have HLR := Lib.hid hlr
        clear hct hct2 hcut hsp hT hTA hTR HCT hpg hlr hrl hal
        go_wp2_with fail
        refine Calls.mono HCT2.out ?_
        rintro e w1 ⟨rfl, hb1⟩
        have HP1 := Lib.hid (HPI.out.later hb1)
        have HTK2 := Lib.hid (HTK.out w1 hb1)
        clear hb1
        rw [parseG_first] at HPG2
        go_wp2_with fail
        refine Calls.mono HTK2.out ?_
        rintro e w2 ⟨f2, he2, hp2, hf2⟩
        have HP2 := Lib.hid hp2
        clear hp2
        cases hfu : fuelOf a with
        | none =>
          rw [hfu] at he2 HPG2
          subst he2
          have HRR := Lib.hid (show R = .inl 0 from HPG2.out.symm)
          clear hf2 hfu
          obtain ⟨o0, o1, q0, q1⟩ := out_facts HP2.out.out (.cells #[.int .i64 0, .iface 36 (.int .i64 2)] 75)
          go_wp2_with fail
          obtain ⟨r1, r2, r3⟩ := fault_end (i := 0) HP2.out.below HP2.out.out
          exact bodyPost_ret (results30 _ _ 0 none 0 0 _ r1 _ rfl rfl) rfl ⟨by rw [HRR.out]; exact ⟨_, rfl, HP2.out.below.size, r2⟩, r3⟩
        | some z =>
          rw [hfu] at he2 HPG2
          obtain rfl := hf2 z hfu
          subst he2
          clear hf2 hfu
          go_wp2_with fail
          go_roundw
          case rel => exact ⟨1, r, f2, v, l, by rw [HTR.out], rfl, by have := HRT.out; omega, by omega, HPG2.out, HP2.out⟩
          case measure => exact HLR.out
    · have d1 : ((k : Int) == 0) = false := by rw [beq_eq_false_iff_ne]; omega
      by_cases ht : t = []
      · subst ht
        have HRR := Lib.hid (show R = .inr (f, l) by rw [← HPG.out]; show parseG k f l [[]] = _; rw [parseG, if_pos ⟨h0, rfl⟩])
        have hte : (tx ([] : List UInt8)).toList.isEmpty = true := by rw [tx_empty]; rfl
        obtain ⟨T, hT⟩ : ∃ T, T = tx ([] : List UInt8) := ⟨_, rfl⟩
        rw [← hT] at hte ⊢
        obtain ⟨A3, c3, rfl, _, _, _⟩ := rdv_own HPI.out.own
        have HCO := Lib.hid (codes_own HPI.out.own rfl)
        have HCK := Lib.hid (check_any f A3 l.length c3 l wr (HA.out.ext HPI.out.below).at_.shapes HCO.out (by omega))
        have g0 : wr.cell? ⟨w.heap.size + 1, 0, none⟩ = some (.int .i64 f) := cell_of_row wr _ 0 _ 24 (0, 0) HPI.out.cur
        have g1 : wr.cell? ⟨w.heap.size + 1, 1, none⟩ = some (.slice A3 l.length c3) := cell_of_row wr _ 1 _ 24 (0, 0) HPI.out.cur
        clear hT hci HCT
        go_wp2_with fail
        refine Calls.mono HCK.out ?_
        rintro e w2 ⟨he2, hb2⟩
        have HP2 := Lib.hid (HPI.out.later hb2)
        have HBZ := Lib.hid hb2.size
        have o0 : w2.cell? ⟨w.heap.size, 0, none⟩ = some (.int .i64 0) := cell_of_row w2 _ 0 _ 24 (0, 0) HP2.out.out
        have o1 : w2.cell? ⟨w.heap.size, 1, none⟩ = some (.slice none 0 0) := cell_of_row w2 _ 1 _ 24 (0, 0) HP2.out.out
        have q0 : w2.frozen? ⟨w.heap.size, 0, none⟩ = false := by simp [World.frozen?, HP2.out.out]
        have q1 : w2.frozen? ⟨w.heap.size, 1, none⟩ = false := by simp [World.frozen?, HP2.out.out]
        clear g0 g1 hb2
        rcases he2 with ⟨hck, rfl⟩ | ⟨hck, b, rfl, hbl, hfa⟩
        · have HCK2 := Lib.hid hck
          have g0 : w2.cell? ⟨w.heap.size + 1, 0, none⟩ = some (.int .i64 f) := cell_of_row w2 _ 0 _ 24 (0, 0) HP2.out.cur
          have g1 : w2.cell? ⟨w.heap.size + 1, 1, none⟩ = some (.slice A3 l.length c3) := cell_of_row w2 _ 1 _ 24 (0, 0) HP2.out.cur
          clear hck
          go_wp2_with fail
          refine bodyPost_ret (results30 _ _ f A3 l.length c3 _ (set2_at HP2.out.out f (.slice A3 l.length c3)) _ rfl rfl) rfl ⟨?_, set2_below HP2.out.below _ (Nat.le_refl _) _ _⟩
          rw [HRR.out]
          refine .inl ⟨HCK2.out, A3, c3, rfl, codes_own (own_keep HP2.out.own fun b cs e _ => set2_other _ _ b (fun e2 => HP2.out.not HP2.out.out (e2 ▸ e))) rfl⟩
        · have HCK2 := Lib.hid hck
          have HFA := Lib.hid hfa
          clear hck hfa
          go_wp2_with fail
          refine bodyPost_ret (results30 _ _ 0 none 0 0 _ (set2_at HP2.out.out 0 (.slice none 0 0)) _ rfl rfl) rfl ⟨?_, set2_below HP2.out.below _ (Nat.le_refl _) _ _⟩
          rw [HRR.out]
          refine .inr ⟨HCK2.out, b, rfl, ?_, (set2_other _ _ b ?_).trans HFA.out⟩
          · have := HPI.out.below.size; omega
          · have := HPI.out.below.size; have := HPI.out.lt; omega
      · have hte : (tx t).toList.isEmpty = false := by
          rw [tx_empty]
          cases t with
          | nil => exact absurd rfl ht
          | cons => rfl
        rcases hci with ⟨hcut, hsp⟩ | ⟨a, r, hcut, hsp, hrl, hal⟩
        · have hct := HCT.out
          rw [hcut] at hct
          have hct2 : Calls Tryd.prog 57 #[.string (tx t), .string { data := #[10] }] wr fun e w' => e = .returned (.tuple #[.string (tx t), .string { data := #[] }, .bool false]) ∧ Below wr.heap.size wr w' := hct
          have HRR := Lib.hid (show R = .inl k by rw [← HPG.out, hsp, parseG, if_neg (fun h => ht h.2)])
          obtain ⟨T, hT⟩ : ∃ T, T = tx t := ⟨_, rfl⟩
          rw [← hT] at hct2 hte
          rw [← hT]
          have HCT2 := Lib.hid hct2
          clear hct hct2 hcut hsp hT HCT
          go_wp2_with fail
          refine Calls.mono HCT2.out ?_
          rintro e w1 ⟨rfl, hb1⟩
          have HP1 := Lib.hid (HPI.out.later hb1)
          clear hb1
          obtain ⟨o0, o1, q0, q1⟩ := out_facts HP1.out.out (.cells #[.int .i64 (k : Int), .iface 36 (.int .i64 2)] 75)
          go_wp2_with fail
          obtain ⟨r1, r2, r3⟩ := fault_end (i := (k : Int)) HP1.out.below HP1.out.out
          exact bodyPost_ret (results30 _ _ 0 none 0 0 _ r1 _ rfl rfl) rfl ⟨by rw [HRR.out]; exact ⟨_, rfl, HP1.out.below.size, r2⟩, r3⟩
        · have hct := HCT.out
          rw [hcut] at hct
          have hct2 : Calls Tryd.prog 57 #[.string (tx t), .string { data := #[10] }] wr fun e w' => e = .returned (.tuple #[.string (tx a), .string (tx r), .bool true]) ∧ Below wr.heap.size wr w' := hct
          have hpg := HPG.out
          rw [hsp] at hpg
          have HPG2 := Lib.hid hpg
          have HAL := Lib.hid (show a.length ≤ 100000 by omega)
          have HRT := Lib.hid (show r.length + 1 ≤ t.length by omega)
          have hlr : (tx r).size < (tx t).size := by rw [tx_size, tx_size]; omega
          have HTK := Lib.hid (fun (W : World) (h : Below wr.heap.size wr W) => take_ins a HAL.out k (by omega) w (w.heap.size + 1) f v l (by omega) W HA.out (HPI.out.later h))
          obtain ⟨T, hT⟩ : ∃ T, T = tx t := ⟨_, rfl⟩
          obtain ⟨TA, hTA⟩ : ∃ T, T = tx a := ⟨_, rfl⟩
          obtain ⟨TR, hTR⟩ : ∃ T, T = tx r := ⟨_, rfl⟩
          have HTR := Lib.hid hTR
          rw [← hT, ← hTA, ← hTR] at hct2
          rw [← hTR, ← hT] at hlr
          rw [← hTA] at HTK
          rw [← hT] at hte
          rw [← hT]
          have HCT2 := Lib.hid hct2
          have HLR := Lib.hid hlr
          clear hct hct2 hcut hsp hT hTA hTR HCT hpg hlr hrl hal
          go_wp2_with fail
          refine Calls.mono HCT2.out ?_
          rintro e w1 ⟨rfl, hb1⟩
          have HP1 := Lib.hid (HPI.out.later hb1)
          have HTK2 := Lib.hid (HTK.out w1 hb1)
          clear hb1
          rw [parseG_next k h0] at HPG2
          go_wp2_with fail
          refine Calls.mono HTK2.out ?_
          rintro e w2 ⟨x, b, v2, rfl, hio, hp2⟩
          have HP2 := Lib.hid hp2
          clear hp2
          rw [hio] at HPG2
          cases b with
          | false =>
            have HRR := Lib.hid (show R = .inl k from HPG2.out.symm)
            clear hio
            obtain ⟨o0, o1, q0, q1⟩ := out_facts HP2.out.out (.cells #[.int .i64 (k : Int), .iface 36 (.int .i64 2)] 75)
            go_wp2_with fail
            obtain ⟨r1, r2, r3⟩ := fault_end (i := (k : Int)) HP2.out.below HP2.out.out
            exact bodyPost_ret (results30 _ _ 0 none 0 0 _ r1 _ rfl rfl) rfl ⟨by rw [HRR.out]; exact ⟨_, rfl, HP2.out.below.size, r2⟩, r3⟩
          | true =>
            have HPG3 := Lib.hid (show parseG (k + 1) f (l ++ [x]) (splitC 10 r) = R from HPG2.out)
            clear hio
            go_wp2_with fail
            go_roundw
            case rel => exact ⟨k + 1, r, f, v2, l ++ [x], by rw [HTR.out], by go_num, by have := HRT.out; omega, by rw [List.length_append]; show l.length + 1 ≤ _; omega, HPG3.out, HP2.out⟩
            case measure => exact HLR.out
end Go.Proofs.YtkeckjgihjpfbaaDoor

/- AsmPrints answers true of whatever program: the walk. -/
namespace Go.Proofs.YtkeckjgihjpfbaaDoor
set_option maxRecDepth 100000
open Go.RowKit
attribute [local go_sem ↓] Go.wp_at_zero Go.wp_at_succ

theorem splitC_app (c : UInt8) : ∀ (w s : List UInt8), c ∉ w → splitC c (w ++ c :: s) = w :: splitC c s
  | [], s, _ => by rw [List.nil_append, splitC_cons, if_pos rfl]
  | b :: w, s, h => by
    rw [List.cons_append, splitC_cons, if_neg (fun e => h (by simp [e])), splitC_app c w s (fun m => h (List.mem_cons_of_mem _ m))]
theorem terms_split (c : UInt8) : ∀ ws : List (List UInt8), (∀ w ∈ ws, c ∉ w) → splitC c (ws.flatMap fun w => w ++ [c]) = ws ++ [[]]
  | [], _ => rfl
  | w :: ws, h => by
    rw [List.flatMap_cons, List.append_assoc, List.singleton_append, splitC_app c w _ (h w (List.mem_cons_self ..)), terms_split c ws (fun x m => h x (List.mem_cons_of_mem _ m))]
    rfl
theorem parseG_lines (f : Int) : ∀ (l : List Ins) (k : Nat) (acc : List Ins), k ≠ 0 → (∀ x ∈ l, x.Good) → (∀ x ∈ l, x.Ok) → parseG k f acc (l.map lineL ++ [[]]) = .inr (f, acc ++ l)
  | [], k, acc, hk, _, _ => by
    show parseG k f acc [[]] = _
    rw [parseG, if_pos ⟨hk, rfl⟩, List.append_nil]
  | x :: l, k, acc, hk, hg, ho => by
    have ih := parseG_lines f l (k + 1) (acc ++ [x]) (by omega) (fun y hy => hg y (List.mem_cons_of_mem _ hy)) (fun y hy => ho y (List.mem_cons_of_mem _ hy))
    rw [List.append_assoc] at ih
    cases hr : l.map lineL ++ [[]] with
    | nil => simp at hr
    | cons r rs =>
      rw [hr] at ih
      rw [List.map_cons, List.cons_append, hr, parseG, if_neg hk, insOf_some (hg x (List.mem_cons_self ..)) (ho x (List.mem_cons_self ..)) rfl]
      exact ih
theorem parse_print {f : Int} {l : List Ins} (hf : Fits f) (hok : ∀ x ∈ l, x.Ok) (hck : chk f l = -2) : parseT (printLs f l) = .inr (f, l) := by
  unfold parseT
  rw [print_lines, terms_split 10 _ (lines_mem f l)]
  unfold linesOf
  have h1 : fuelOf ([102, 117, 101, 108, 32] ++ Lib.itoa f) = some f := by
    unfold fuelOf
    rw [if_pos (show ([102, 117, 101, 108, 32] ++ Lib.itoa f : List UInt8).take 5 = [102, 117, 101, 108, 32] from rfl)]
    exact (numO_iff _ _).2 ⟨hf, rfl⟩
  cases hr : l.map lineL ++ [[]] with
  | nil => simp at hr
  | cons r rs =>
    rw [List.cons_append, hr, parseG, if_pos rfl, h1]
    have := parseG_lines f l 1 [] (by omega) (good_of_chk hck) hok
    rw [hr] at this
    exact this
set_option maxHeartbeats 16000000 in
theorem prints_law (f : Int) (hf : Fits f) (A : Option Addr) (n c : Nat) (l : List Ins) (w : World) (hA : AU w) (h1 : Codes w A n l) (hn : n ≤ 9223372036854775807) (hnil : A = none → c = 0) (hok : ∀ x ∈ l, Ins.Ok x) :
    Calls Tryd.prog 7 #[.agg #[.int .i64 f, .slice A n c]] w fun e w' => e = .returned (.bool true) ∧ Below w.heap.size w w' := by
  have hb0 := (Below.refl w.heap.size w).alloc (Nat.le_refl _) (.cells #[.int .i64 f, .slice A n c] 24)
  have HAL := Lib.hid (asm_alive _ (hA.ext hb0).at_)
  have HB0 := Lib.hid hb0
  have HN0 := Lib.hid (one_new w (.cells #[.int .i64 f, .slice A n c] 24))
  have HA := Lib.hid hA
  have H1 := Lib.hid h1
  have HL := Lib.hid h1.len
  have HOK := Lib.hid hok
  have HF := Lib.hid hf
  clear hb0 hA h1 hok hf
  go_enter Tryd.func7, Tryd.ntmps7
  go_wp2_with fail
  refine Calls.mono HAL.out ?_
  rintro e w1 ⟨rfl, hb1⟩
  have HB1 := Lib.hid (HB0.out.trans (hb1.mono HB0.out.size))
  have HX1 := Lib.hid (box_later HN0.out hb1)
  have x0 : w1.cell? ⟨w.heap.size, 0, none⟩ = some (.int .i64 f) := cell_of_row w1 _ 0 _ 24 (0, 0) HX1.out
  have x1 : w1.cell? ⟨w.heap.size, 1, none⟩ = some (.slice A n c) := cell_of_row w1 _ 1 _ 24 (0, 0) HX1.out
  clear hb1
  by_cases hl : 100 < n
  · have d1 : decide ((100 : Int) < (n : Int)) = true := decide_eq_true (by omega)
    clear hl
    go_wp2_with fail
    go_ret
    exact ⟨rfl, HB1.out⟩
  have d1 : decide ((100 : Int) < (n : Int)) = false := decide_eq_false (by omega)
  have hn1 : n ≤ 100 := by omega
  clear hl
  go_upto_region 6 with fail
  obtain ⟨W, hW⟩ : ∃ W, W = w1.alloc (.cells #[.int .i64 f, .slice A n c] 24) := ⟨_, rfl⟩
  rw [← hW]
  have hbW : Below w1.heap.size w1 W := by rw [hW]; exact (Below.refl _ w1).alloc (Nat.le_refl _) _
  have HY := Lib.hid (show W.heap[w1.heap.size]? = some (.cells #[.int .i64 f, .slice A n c] 24 (0, 0)) by rw [hW]; exact one_new w1 _)
  have hsz : W.heap.size = w1.heap.size + 1 := by rw [hW, World.size_alloc]
  have HBW := Lib.hid (HB1.out.trans (hbW.mono HB1.out.size))
  have HXW := Lib.hid (box_later HX1.out hbW)
  have x0 : W.cell? ⟨w.heap.size, 0, none⟩ = some (.int .i64 f) := cell_of_row W _ 0 _ 24 (0, 0) HXW.out
  have x1 : W.cell? ⟨w.heap.size, 1, none⟩ = some (.slice A n c) := cell_of_row W _ 1 _ 24 (0, 0) HXW.out
  have hEx := World.cell?_alloc_lt W (.cells #[] 43) ⟨w.heap.size, 1, none⟩ (World.block_lt_of_cell? W _ x1)
  rw [x1] at hEx
  have HOE := Lib.hid (own_empty W W.heap.size 43 6 43 rfl (Nat.le_refl _))
  have HC2 := Lib.hid ((H1.out.ext (stays_b HBW.out)).ext (stays_b ((Below.refl _ W).alloc (Nat.le_refl _) (.cells #[] 43))))
  have HQ := Lib.hid hsz
  have hq : w.heap.size < w1.heap.size := (Array.getElem?_eq_some_iff.1 HX1.out).1
  clear hW hbW hsz
  go_upto_region 7 with (at_builtin; refine wpList_append_rowv elemC rfl (.tmp 16) (.tmp 18) rfl W.heap.size (.slice (some ⟨W.heap.size, 0, none⟩) 0 0) 0 [] rfl HOE.out A n c (insV l) rfl HC2.out.row (insV_one _) hnil (by unfold maxLen; omega) (by omega) (by rw [World.size_alloc]; omega) ?_; intro v3 w3 hown3 hg3 hb3; obtain ⟨A3, k3, rfl, hrd3, _, _⟩ := rdv_own hown3; have hbw3 : Below W.heap.size W w3 := ((Below.refl _ W).alloc (Nat.le_refl _) _).grown hg3 (by rw [World.size_alloc]; omega) (fun q e => by have : W.heap.size = q := Option.some.inj e; omega); have hy3 := box_later HY.out hbw3; have z1 : w3.cell? ⟨w1.heap.size, 1, none⟩ = some (.slice A n c) := cell_of_row w3 _ 1 _ 24 (0, 0) hy3; have zf : w3.frozen? ⟨w1.heap.size, 1, none⟩ = false := (by simp [World.frozen?, hy3]); have HO3 := Lib.hid hown3; have HBW3 := Lib.hid hbw3; have HY3 := Lib.hid hy3)
  clear hown3 hg3 hb3 hrd3 hbw3 hy3
  obtain ⟨W4, hW4⟩ : ∃ W4, W4 = w3.setCell ⟨w1.heap.size, 1, none⟩ (.slice A3 n k3) := ⟨_, rfl⟩
  have ho3 := HO3.out
  rw [Nat.zero_add, List.nil_append] at ho3
  have HY4 := Lib.hid (show W4.heap[w1.heap.size]? = some (.cells #[.int .i64 f, .slice A3 n k3] 24 (0, 0)) by rw [hW4]; exact heap_at HY3.out 1 _)
  have HC4 := Lib.hid (show Codes W4 A3 n l from codes_own (by
    rw [hW4]
    exact own_keep ho3 fun b cs e _ => Deep.blk_setCell_other _ _ _ b (fun e2 => by
      have e3 : b = w1.heap.size := e2
      have := (own_cells ho3 b e).1
      have := HQ.out
      omega)) HL.out)
  have HB4 := Lib.hid (show Below w.heap.size w W4 by rw [hW4]; exact (HBW.out.trans (HBW3.out.mono HBW.out.size)).setCell (p := ⟨w1.heap.size, 1, none⟩) (Nat.le_of_lt hq) _)
  have HX4 := Lib.hid (show W4.heap[w.heap.size]? = some (.cells #[.int .i64 f, .slice A n c] 24 (0, 0)) by rw [hW4]; exact (Deep.blk_setCell_other _ _ _ _ (fun e2 => by have e3 : w.heap.size = w1.heap.size := e2; omega)).trans (box_later HXW.out HBW3.out))
  rw [← hW4]
  clear hW4 ho3 z1 zf x0 x1 hEx
  have y0 : W4.cell? ⟨w1.heap.size, 0, none⟩ = some (.int .i64 f) := cell_of_row W4 _ 0 _ 24 (0, 0) HY4.out
  have y1 : W4.cell? ⟨w1.heap.size, 1, none⟩ = some (.slice A3 n k3) := cell_of_row W4 _ 1 _ 24 (0, 0) HY4.out
  have HPR := Lib.hid (print_any f HF.out A3 n k3 l W4 (HA.out.ext HB4.out).at_ HC4.out hn HOK.out)
  go_wp2_with fail
  refine Calls.mono HPR.out ?_
  rintro e w5 ⟨he5, hb5⟩
  have HB5 := Lib.hid (HB4.out.trans (hb5.mono HB4.out.size))
  have HX5 := Lib.hid (box_later HX4.out hb5)
  have HY5 := Lib.hid (box_later HY4.out hb5)
  have HC5 := Lib.hid (HC4.out.ext (stays_b hb5))
  clear y0 y1 hb5
  have x0 : w5.cell? ⟨w.heap.size, 0, none⟩ = some (.int .i64 f) := cell_of_row w5 _ 0 _ 24 (0, 0) HX5.out
  have x1 : w5.cell? ⟨w.heap.size, 1, none⟩ = some (.slice A n c) := cell_of_row w5 _ 1 _ 24 (0, 0) HX5.out
  have y0 : w5.cell? ⟨w1.heap.size, 0, none⟩ = some (.int .i64 f) := cell_of_row w5 _ 0 _ 24 (0, 0) HY5.out
  have y1 : w5.cell? ⟨w1.heap.size, 1, none⟩ = some (.slice A3 n k3) := cell_of_row w5 _ 1 _ 24 (0, 0) HY5.out
  have HPG := Lib.hid (by have h := programs_any f f A3 A n n k3 c l l w5 HC5.out (H1.out.ext (stays_b HB5.out)) hn hn; rw [sameP_self'] at h; exact h : Calls Tryd.prog 15 #[.agg #[.int .i64 f, .slice A3 n k3], .agg #[.int .i64 f, .slice A n c]] w5 fun e w' => e = .returned (.bool true) ∧ Below w5.heap.size w5 w')
  rcases he5 with ⟨hck, rfl⟩ | ⟨hck, b, rfl, _, hfa⟩
  · have HCK := Lib.hid hck
    have hlen := printLs_len HF.out l HOK.out
    have hlb : (printLs f l).length ≤ 100000 := by rw [HL.out] at hlen; omega
    have HPT := Lib.hid (fun (W : World) (h : AU W) => (by have h2 := parse_any (printLs f l) hlb W h; rw [parse_print HF.out HOK.out hck] at h2; exact h2 : Calls Tryd.prog 30 #[.string (tx (printLs f l))] W fun e w' => ParseE (.inr (f, l)) W w' e ∧ Below W.heap.size W w'))
    have HRP := Lib.hid (fun (W : World) (h : Codes W A n l) => refprint_any f HF.out A n c l W h hn1 HOK.out)
    have HRC := Lib.hid (fun W (h : Codes W A n l) => (by have h2 := refcheck_any f A n c l W h hn; rw [hck] at h2; exact h2 : Calls Tryd.prog 16 #[.agg #[.int .i64 f, .slice A n c]] W fun e w' => e = .returned (.int .i64 (-2)) ∧ Below W.heap.size W w'))
    have hss : ((tx (printLs f l)).toList == (tx (printLs f l)).toList) = true := by simp
    obtain ⟨S, hS⟩ : ∃ S, S = tx (printLs f l) := ⟨_, rfl⟩
    rw [← hS] at HPT HRP hss ⊢
    clear hck hlen hlb hS
    go_wp2_with fail
    refine Calls.mono HPG.out ?_
    rintro e w6 ⟨rfl, hb6⟩
    have HB6 := Lib.hid (HB5.out.trans (hb6.mono HB5.out.size))
    have HX6 := Lib.hid (box_later HX5.out hb6)
    clear x0 x1 y0 y1 hb6
    have x0 : w6.cell? ⟨w.heap.size, 0, none⟩ = some (.int .i64 f) := cell_of_row w6 _ 0 _ 24 (0, 0) HX6.out
    have x1 : w6.cell? ⟨w.heap.size, 1, none⟩ = some (.slice A n c) := cell_of_row w6 _ 1 _ 24 (0, 0) HX6.out
    have HRC6 := Lib.hid (HRC.out w6 (H1.out.ext (stays_b HB6.out)))
    go_wp2_with fail
    refine Calls.mono HRC6.out ?_
    rintro e w7 ⟨rfl, hb7⟩
    have HB7 := Lib.hid (HB6.out.trans (hb7.mono HB6.out.size))
    have HX7 := Lib.hid (box_later HX6.out hb7)
    have HPT7 := Lib.hid (HPT.out w7 (HA.out.ext HB7.out))
    clear x0 x1 hb7
    go_wp2_with fail
    refine Calls.mono HPT7.out ?_
    rintro e w8 ⟨he8, hb8⟩
    have HB8 := Lib.hid (HB7.out.trans (hb8.mono HB7.out.size))
    have HX8 := Lib.hid (box_later HX7.out hb8)
    clear hb8
    rcases he8 with ⟨_, A8, c8, rfl, hc8⟩ | ⟨hne, _⟩
    · have hb9 := (Below.refl w8.heap.size w8).alloc (Nat.le_refl _) (.cells #[.int .i64 f, .slice A8 l.length c8] 24)
      have HB9 := Lib.hid (HB8.out.trans (hb9.mono HB8.out.size))
      have HX9 := Lib.hid (box_later HX8.out hb9)
      have HZ9 := Lib.hid (one_new w8 (.cells #[.int .i64 f, .slice A8 l.length c8] 24))
      have HC9 := Lib.hid (hc8.ext (stays_b hb9))
      clear hc8 hb9
      go_upto_region 14 with fail
      obtain ⟨W9, hW9⟩ : ∃ W9, W9 = w8.alloc (.cells #[.int .i64 f, .slice A8 l.length c8] 24) := ⟨_, rfl⟩
      rw [← hW9] at HB9 HX9 HZ9 HC9 ⊢
      clear hW9
      have x0 : W9.cell? ⟨w.heap.size, 0, none⟩ = some (.int .i64 f) := cell_of_row W9 _ 0 _ 24 (0, 0) HX9.out
      have x1 : W9.cell? ⟨w.heap.size, 1, none⟩ = some (.slice A n c) := cell_of_row W9 _ 1 _ 24 (0, 0) HX9.out
      have HRP9 := Lib.hid (HRP.out W9 (H1.out.ext (stays_b HB9.out)))
      go_wp2_with fail
      refine Calls.mono HRP9.out ?_
      rintro e w10 ⟨rfl, hb10⟩
      have HB10 := Lib.hid (HB9.out.trans (hb10.mono HB9.out.size))
      have HX10 := Lib.hid (box_later HX9.out hb10)
      have HZ10 := Lib.hid (box_later HZ9.out hb10)
      have HC10 := Lib.hid (HC9.out.ext (stays_b hb10))
      clear x0 x1 hb10
      have x0 : w10.cell? ⟨w.heap.size, 0, none⟩ = some (.int .i64 f) := cell_of_row w10 _ 0 _ 24 (0, 0) HX10.out
      have x1 : w10.cell? ⟨w.heap.size, 1, none⟩ = some (.slice A n c) := cell_of_row w10 _ 1 _ 24 (0, 0) HX10.out
      have y0 : w10.cell? ⟨w8.heap.size, 0, none⟩ = some (.int .i64 f) := cell_of_row w10 _ 0 _ 24 (0, 0) HZ10.out
      have y1 : w10.cell? ⟨w8.heap.size, 1, none⟩ = some (.slice A8 l.length c8) := cell_of_row w10 _ 1 _ 24 (0, 0) HZ10.out
      have HPG2 := Lib.hid (by have h := programs_any f f A8 A l.length n c8 c l l w10 HC10.out (H1.out.ext (stays_b HB10.out)) (by rw [HL.out]; exact hn) hn; rw [sameP_self'] at h; exact h : Calls Tryd.prog 15 #[.agg #[.int .i64 f, .slice A8 l.length c8], .agg #[.int .i64 f, .slice A n c]] w10 fun e w' => e = .returned (.bool true) ∧ Below w10.heap.size w10 w')
      go_wp2_with fail
      refine Calls.mono HPG2.out ?_
      rintro e w11 ⟨rfl, hb11⟩
      have HB11 := Lib.hid (HB10.out.trans (hb11.mono HB10.out.size))
      clear x0 x1 y0 y1 hb11
      go_wp2_with fail
      go_ret
      exact ⟨rfl, HB11.out⟩
    · exact absurd HCK.out hne
  · have HFA := Lib.hid hfa
    have HRC := Lib.hid (fun W (h : Codes W A n l) => refcheck_any f A n c l W h hn)
    have HFI := Lib.hid (fun (W : World) (hf : FaultAt W b (chk f l)) => is_fault b _ W hf)
    have HFT := Lib.hid (fun (W : World) (hf : FaultAt W b (chk f l)) => at_fault b _ W hf)
    obtain ⟨V, hV⟩ : ∃ V, V = chk f l := ⟨_, rfl⟩
    rw [← hV] at HRC HFA HFI HFT hck
    have d2 : (V != -2) = true := by rw [bne_iff_ne]; exact hck
    have d3 : (V == V) = true := by simp
    clear hV hck hfa
    go_wp2_with fail
    refine Calls.mono HPG.out ?_
    rintro e w6 ⟨rfl, hb6⟩
    have HB6 := Lib.hid (HB5.out.trans (hb6.mono HB5.out.size))
    have HX6 := Lib.hid (box_later HX5.out hb6)
    have HFA6 := Lib.hid (show FaultAt w6 b V from box_later HFA.out hb6)
    clear x0 x1 y0 y1 hb6
    have x0 : w6.cell? ⟨w.heap.size, 0, none⟩ = some (.int .i64 f) := cell_of_row w6 _ 0 _ 24 (0, 0) HX6.out
    have x1 : w6.cell? ⟨w.heap.size, 1, none⟩ = some (.slice A n c) := cell_of_row w6 _ 1 _ 24 (0, 0) HX6.out
    have HRC6 := Lib.hid (HRC.out w6 (H1.out.ext (stays_b HB6.out)))
    go_wp2_with fail
    refine Calls.mono HRC6.out ?_
    rintro e w7 ⟨rfl, hb7⟩
    have HB7 := Lib.hid (HB6.out.trans (hb7.mono HB6.out.size))
    have HI7 := Lib.hid (HFI.out w7 (box_later HFA6.out hb7))
    have HT7 := Lib.hid (HFT.out w7 (box_later HFA6.out hb7))
    clear x0 x1 hb7
    go_wp2_with fail
    refine Calls.mono HI7.out ?_
    rintro e w8 ⟨rfl, rfl⟩
    go_wp2_with fail
    refine Calls.mono HT7.out ?_
    rintro e w8 ⟨rfl, rfl⟩
    go_wp2_with fail
    go_ret
    exact ⟨rfl, HB7.out⟩
end Go.Proofs.YtkeckjgihjpfbaaDoor

/- From the row's readings to what the walks are told: programs, bytes, the table of shapes; and a start that holds the table. -/
namespace Go.Proofs.YtkeckjgihjpfbaaDoor
open Go.ChangeShapes Go.WideShapes Go.ChangeAt Go.RowKit Go.Deep Go.Joins

theorem own : ownKnob Tryd.prog.godebug = none := by kernel_rfl
theorem laidOut : laidOutB Tryd.prog = true := by kernel_rfl
theorem gShapes : Tryd.prog.globalNamed "sluiceway/prog.shapes" = some 0 := by kernel_rfl
theorem gShapesType : (Tryd.prog.globals[0]?).map (·.type) = some 90 := by kernel_rfl
theorem cells9 : Tryd.prog.cellsOf 9 = 1 := by kernel_rfl
theorem cells90 : Tryd.prog.cellsOf 90 = 16 := by kernel_rfl
theorem cells5 : Tryd.prog.cellsOf 5 = 1 := by kernel_rfl
theorem cells28 : Tryd.prog.cellsOf 28 = 1 := by kernel_rfl
theorem cells3 : Tryd.prog.cellsOf 3 = 1 := by kernel_rfl
theorem cells22 : Tryd.prog.cellsOf 22 = 1 := by kernel_rfl
theorem cells24 : Tryd.prog.cellsOf 24 = 2 := by kernel_rfl
theorem cells43 : Tryd.prog.cellsOf 43 = 6 := by kernel_rfl

def strData {H : Type} (ss : List (List UInt8)) : DataW H := .agg (ss.map fun s => .lit (.string s))
theorem cells_of_strs {H : Type} {enc : TypeId × Value → H} {P : Program} {w : World} {base : Nat} {sp : Nat → Bool} {held : Bool} {fuel : Nat} {t e : TypeId} {n : Nat} {cs : List Value} {ss : List (List UInt8)} {p : List MemPlace}
    (ht : P.underlying t = some (.array n e)) (he : P.underlying e = some .string) (hce : P.cellsOf e = 1) (hct : P.cellsOf t = n)
    (h : DataW.trod enc P w base sp held fuel t cs = some (strData ss, p)) : cs = ss.map fun s => Value.string ⟨s.toArray⟩ := by
  cases fuel with
  | zero => simp [DataW.trod] at h
  | succ fuel =>
    simp only [DataW.trod, ht, hce, hct, Nat.mul_one] at h
    split at h
    · rename_i hl
      obtain ⟨xs, hm, hx⟩ := Option.map_eq_some_iff.1 h
      have hxs : xs.map (·.1) = ss.map fun s => (DataW.lit (.string s) : DataW H) := by
        have := congrArg Prod.fst hx
        simpa [strData] using this
      have hxl : xs.length = n := by simpa using Lib.mapM_length hm
      have hzl : ss.length = n := by
        have := congrArg List.length hxs
        simp at this
        omega
      apply List.ext_getElem?
      intro i
      by_cases hi : i < n
      · obtain ⟨b, hb, hf⟩ := Lib.mapM_at hm i i (by simp [hi])
        obtain ⟨z, hc, rfl, _⟩ := DataW.trod_string he hf
        have h1 : cs[i]? = some (.string z) := by
          have := congrArg (·[0]?) hc
          simpa [List.getElem?_take, List.getElem?_drop] using this
        have h2 : (xs.map (·.1))[i]? = some (DataW.lit (.string z.data.toList) : DataW H) := by simp [hb]
        rw [hxs] at h2
        simp only [List.getElem?_map, Option.map_eq_some_iff, DataW.lit.injEq, Lit.string.injEq] at h2
        obtain ⟨z', hz', rfl⟩ := h2
        simp [h1, hz']
      · rw [List.getElem?_eq_none (by omega), List.getElem?_eq_none (by simp; omega)]
    · cases h
def shapesS : List (List UInt8) := [[97, 110], [97, 98], [97, 98, 99], [97, 98, 99], [97, 98, 99], [97, 98, 99], [97, 98, 99], [97, 116, 98], [97, 116, 98], [116, 98, 97], [116, 98], [97, 116, 98, 99, 107], [97, 116, 98, 99, 107], [115, 98, 106, 99], [98, 106, 99], [97]]
theorem shapes_at : ∀ i : Nat, i < 16 → shapesS[i]? = some ((shapeL (i : Int)).map UInt8.ofNat) := by decide +kernel
theorem laid_is {H : Type} : (Rows.laid_sluiceway_prog_shapes : DataW H) = strData shapesS := rfl
theorem strN_mk (xs : List Nat) : strN xs = ⟨(xs.map UInt8.ofNat).toArray⟩ := by
  have h := strN_data xs
  have : (strN xs).data = (xs.map UInt8.ofNat).toArray := by rw [← h]
  rw [← this]
theorem tab_of_laid {W : World} (h : laidMet Tryd.prog [("sluiceway/prog.shapes", Rows.laid_sluiceway_prog_shapes)] W) : Tab W := by
  rw [laid_is] at h
  obtain ⟨ps, ⟨g', t', cs, fuel, p, q, hg', ht', hvar, hd, _, _⟩, _⟩ := h
  obtain rfl := Option.some.inj (gShapes.symm.trans hg')
  obtain rfl := Option.some.inj (gShapesType.symm.trans ht')
  have hcs := cells_of_strs Tryd.underlying90 Tryd.underlying9 cells9 cells90 hd
  intro i hi
  have h1 := World.var?_cell gShapes hvar i
  rw [h1, ← Array.getElem?_toList, hcs, strN_mk, List.getElem?_map, shapes_at i hi]
  rfl

section
variable {H : Type} {enc : TypeId × Value → H} {P : Program} {w : World} {base : Nat} {spare : Nat → Bool} {held : Bool}
theorem open_slice_fields {t e : TypeId} {fs : Array Field} {fuel : Nat} {cs : List Value} {x : DataW H × List MemPlace} (ht : P.underlying t = some (.slice e)) (he : P.underlying e = some (.struct fs))
    (hone : oneCellFields P fs = true) (hC : P.cellsOf e = fs.size) (h : DataW.trod enc P w base spare held fuel t cs = some x) :
    (cs = [.slice none 0 0] ∧ x = (.nil, [])) ∨
    ∃ (a : Addr) (len cap m : Nat) (D : Nat → DataW H) (Pl : Nat → List MemPlace), cs = [.slice (some a) len cap] ∧ base ≤ a.block ∧ len ≤ cap ∧ cap ≤ maxLen ∧ m = (if spare a.block then cap else len) ∧
      x = (.slice ((List.range len).map D) ((List.range (m - len)).map fun j => D (len + j)), MemPlace.row a (m * fs.size) ++ (List.range m).flatMap Pl) ∧
      ∀ i, i < m → ∃ (ys : List (DataW H × List MemPlace)) (n : Nat), D i = .agg (ys.map (·.1)) ∧ Pl i = ys.flatMap (·.2) ∧ ys.length = fs.size ∧
        ∀ (j : Nat) (f : Field), fs[j]? = some f → ∃ (v : Value) (y : DataW H × List MemPlace), w.cell? (a.add (i * fs.size + j)) = some v ∧ ys[j]? = some y ∧ DataW.trod enc P w base spare held n f.type [v] = some y := by
  rcases open_slice ht h with h0 | ⟨a, len, cap, m, n, D, Pl, hcs, hb, hl, hm, hmm, hx, hi⟩
  · exact .inl h0
  · refine .inr ⟨a, len, cap, m, D, Pl, hcs, hb, hl, hm, hmm, by rw [hC] at hx; exact hx, fun i him => ?_⟩
    obtain ⟨cs', hc, ht'⟩ := hi i him
    rw [hC] at hc
    obtain ⟨ys, n', hn', hy, hlen, hyl, hf⟩ := DataW.trod_struct he ht'
    obtain ⟨_, hcl, hat⟩ := World.cells?_some hc
    simp only [Prod.mk.injEq] at hy
    refine ⟨ys, n', hy.1, hy.2, hyl, fun j f hj => ?_⟩
    obtain ⟨ho, hk⟩ := hone_of hone j f hj
    have hjl : j < fs.size := (Array.getElem?_eq_some_iff.1 hj).1
    have hcell := hat j hjl
    have hv : cs'[j]? = some (cs'[j]'(by omega)) := List.getElem?_eq_getElem (by omega)
    have h1 := hf j f hj
    rw [ho, hk] at h1
    have hone' : (cs'.drop j).take 1 = [cs'[j]'(by omega)] := by
      rw [List.drop_eq_getElem_cons (by omega)]
      rfl
    rw [hone'] at h1
    have hys : ys[j]? = some (ys[j]'(by omega)) := List.getElem?_eq_getElem (by omega)
    refine ⟨_, _, ?_, hys, h1.trans hys⟩
    rw [← Go.Deep.add_add, hcell, hv]
end
section
variable {H : Type} {enc : TypeId × Value → H} {W : World} {sp : Nat → Bool}
theorem fits_wf {z : Int} (h : (Lit.int .i64 z).wf = true) : Fits z := by
  have := bounds_i64 h
  unfold Fits
  omega
theorem open_codes {fuel : Nat} {v : Value} {x : DataW H × List MemPlace} (hf : DataW.trod enc Tryd.prog W 0 sp true fuel 22 [v] = some x) :
    ∃ A n c l, v = .slice A n c ∧ Codes W A n l ∧ n ≤ 9223372036854775807 ∧ n ≤ c ∧ (A = none → c = 0) ∧ ∀ y ∈ l, Ins.Ok y := by
  rcases open_slice_fields Tryd.underlying22 Tryd.underlying43 (by kernel_rfl) (by rw [cells43]; rfl) hf with ⟨hcs, _⟩ | ⟨a, len, cap, m, D, Pl, hcs, _, hl, hm, hmm, _, hc⟩
  · injection hcs with hcs
    subst hcs
    exact ⟨none, 0, 0, [], rfl, ⟨rfl, rfl, fun hn => absurd hn (by omega)⟩, by decide, by decide, fun _ => rfl, fun y hy => by cases hy⟩
  · injection hcs with hcs
    subst hcs
    unfold maxLen at hm
    have hlm : len ≤ m := by rw [hmm]; split <;> omega
    have hall : ∀ i : Nat, ∀ j : Nat, ∃ z : Int, i < len → j < 6 → W.cell? (a.add (i * 6 + j)) = some (.int .i64 z) ∧ Fits z := by
      intro i j
      by_cases hij : i < len ∧ j < 6
      · obtain ⟨hi, hj⟩ := hij
        obtain ⟨ys, n, _, _, _, hcell⟩ := hc i (by omega)
        have key : ∀ (f : Field), (#[{ name := "Op", type := 3, offset := 0, embedded := false, tag := "", pkgPath := "", byteOffset := 0 }, { name := "A", type := 3, offset := 1, embedded := false, tag := "", pkgPath := "", byteOffset := 8 }, { name := "B", type := 3, offset := 2, embedded := false, tag := "", pkgPath := "", byteOffset := 16 }, { name := "C", type := 3, offset := 3, embedded := false, tag := "", pkgPath := "", byteOffset := 24 }, { name := "T", type := 3, offset := 4, embedded := false, tag := "", pkgPath := "", byteOffset := 32 }, { name := "N", type := 3, offset := 5, embedded := false, tag := "", pkgPath := "", byteOffset := 40 }] : Array Field)[j]? = some f → f.type = 3 → ∃ z : Int, W.cell? (a.add (i * 6 + j)) = some (.int .i64 z) ∧ Fits z := by
          intro f hfj h3
          obtain ⟨v, y, h1, _, h2⟩ := hcell j f hfj
          rw [h3] at h2
          obtain ⟨z, hz, _, hw⟩ := DataW.trod_int Tryd.underlying3 h2
          injection hz with hz
          subst hz
          exact ⟨z, h1, fits_wf hw⟩
        have hj6 : j = 0 ∨ j = 1 ∨ j = 2 ∨ j = 3 ∨ j = 4 ∨ j = 5 := by omega
        obtain ⟨z, hz⟩ : ∃ z : Int, W.cell? (a.add (i * 6 + j)) = some (.int .i64 z) ∧ Fits z := by
          rcases hj6 with rfl | rfl | rfl | rfl | rfl | rfl <;> exact key _ rfl rfl
        exact ⟨z, fun _ _ => hz⟩
      · exact ⟨0, fun h1 h2 => absurd ⟨h1, h2⟩ hij⟩
    obtain ⟨Z, hZ⟩ := Classical.axiomOfChoice (fun i => Classical.axiomOfChoice (hall i))
    refine ⟨some a, len, cap, (List.range len).map fun i => ⟨Z i 0, Z i 1, Z i 2, Z i 3, Z i 4, Z i 5⟩, rfl, ⟨by simp, ?_, fun hn => ?_⟩, by omega, hl, (fun h => by cases h), ?_⟩
    · rw [insV_length]; simp
    · obtain ⟨b, off, spot⟩ := a
      have h0 := (hZ 0 0 hn (by omega)).1
      have hspot : spot = none := by simpa [Addr.add] using World.cell?_spot h0
      subst hspot
      refine ⟨b, off, rfl, fun j u hj => ?_⟩
      have hjl := (List.getElem?_eq_some_iff.1 hj).1
      rw [insV_length] at hjl
      simp only [List.length_map, List.length_range] at hjl
      have hk : j / 6 < len := by omega
      have hr : j % 6 < 6 := Nat.mod_lt _ (by omega)
      have hjj : j / 6 * 6 + j % 6 = j := by omega
      have h1 := (hZ (j / 6) (j % 6) hk hr).1
      rw [addr_plus, hjj] at h1
      rw [h1, ← hj, ← hjj, insV_get _ (j / 6) (by simpa using hk) (j % 6) hr]
      have hj6 : j % 6 = 0 ∨ j % 6 = 1 ∨ j % 6 = 2 ∨ j % 6 = 3 ∨ j % 6 = 4 ∨ j % 6 = 5 := by omega
      rw [hjj]
      rcases hj6 with h | h | h | h | h | h <;> rw [h] <;> simp [Ins.vals]
    · intro y hy
      obtain ⟨i, hi, rfl⟩ := List.mem_map.1 hy
      have hi' := List.mem_range.1 hi
      exact ⟨(hZ i 0 hi' (by omega)).2, (hZ i 1 hi' (by omega)).2, (hZ i 2 hi' (by omega)).2, (hZ i 3 hi' (by omega)).2, (hZ i 4 hi' (by omega)).2, (hZ i 5 hi' (by omega)).2⟩
set_option maxRecDepth 100000 in
theorem open_prog {v : Value} {base : Nat} {r : Reach} {d : DataW H} {p : List MemPlace} (hv : Value.okWide Tryd.prog W r base 24 v) (h : DataW.Trod enc Tryd.prog W 0 sp true 24 v d p) :
    ∃ f A n c l, v = .agg #[.int .i64 f, .slice A n c] ∧ Fits f ∧ Codes W A n l ∧ n ≤ 9223372036854775807 ∧ n ≤ c ∧ (A = none → c = 0) ∧ ∀ y ∈ l, Ins.Ok y := by
  obtain ⟨v0, v1, y0, y1, n, rfl, _, _, h0, h1⟩ := open_agg2 Tryd.underlying24 (by kernel_rfl) cells24 hv h
  obtain ⟨f, hf, _, hw⟩ := DataW.trod_int Tryd.underlying3 h0
  injection hf with hf
  subst hf
  obtain ⟨A, n, c, l, rfl, hc, h2, h3, h4, h5⟩ := open_codes h1
  exact ⟨f, A, n, c, l, rfl, fits_wf hw, hc, h2, h3, h4, h5⟩
end

noncomputable def laidWorld (os : Os) : World :=
  { World.holding Tryd.prog os ⟨#[], #[], []⟩ with heap := (World.holding Tryd.prog os ⟨#[], #[], []⟩).heap.modify 0 fun
      | .cells _ t frozen => .cells (shapesS.map fun s => Value.string ⟨s.toArray⟩).toArray t frozen
      | o => o }
theorem laid_met (os : Os) (args : Array Value) : laidMetH Tryd.prog [("sluiceway/prog.shapes", Rows.laid_sluiceway_prog_shapes)] ((laidWorld os).forCall (fun _ _ => 0) ⟨#[], args, []⟩).memory := by
  rw [Go.MakeChecks.laidMetH_plain _ _ _ (by rfl)]
  exact laidMet_of_run' 8 (by kernel_rfl) (by kernel_rfl)
end Go.Proofs.YtkeckjgihjpfbaaDoor

/- Layer 7: the listed variables as the walks want them; a start that holds them; instructions that came in. -/
namespace Go.Proofs.YtkeckjgihjpfbaaDoor
set_option maxRecDepth 100000
open Go.ChangeShapes Go.WideShapes Go.ChangeAt Go.RowKit Go.Deep Go.Joins

theorem gWords : Tryd.prog.globalNamed "sluiceway/asm.words" = some 1 := by kernel_rfl
theorem gWordsType : (Tryd.prog.globals[1]?).map (·.type) = some 90 := by kernel_rfl
theorem gRels : Tryd.prog.globalNamed "sluiceway/asm.relations" = some 2 := by kernel_rfl
theorem gRelsType : (Tryd.prog.globals[2]?).map (·.type) = some 123 := by kernel_rfl
theorem gPow : Tryd.prog.globalNamed "internal/strconv.uint64pow10" = some 4 := by kernel_rfl
theorem gPowType : (Tryd.prog.globals[4]?).map (·.type) = some 140 := by kernel_rfl
theorem cells123 : Tryd.prog.cellsOf 123 = 4 := by kernel_rfl
theorem cells140 : Tryd.prog.cellsOf 140 = 20 := by kernel_rfl
theorem cells68 : Tryd.prog.cellsOf 68 = 1 := by kernel_rfl
theorem words_laid : (Rows.laid_sluiceway_asm_words : DataW Unit) = strData wordsS := rfl
theorem rels_laid : (Rows.laid_sluiceway_asm_relations : DataW Unit) = strData relsS := rfl
theorem pow_laid : (Rows.laid_internal_strconv_uint64pow10 : DataW Unit) = Lib.tabData .u64 Lib.pow10Tab := by kernel_rfl
theorem at_of_laid {W : World} {l : List (String × DataW Unit)} (h : laidMet Tryd.prog l W) (m1 : ("sluiceway/prog.shapes", Rows.laid_sluiceway_prog_shapes) ∈ l) (m2 : ("sluiceway/asm.words", Rows.laid_sluiceway_asm_words) ∈ l)
    (m3 : ("sluiceway/asm.relations", Rows.laid_sluiceway_asm_relations) ∈ l) (m4 : ("internal/strconv.uint64pow10", Rows.laid_internal_strconv_uint64pow10) ∈ l) : AT W := by
  refine ⟨?_, ?_, ?_, ?_⟩
  · obtain ⟨g', t', cs, fuel, p, hg', ht', hvar, hd⟩ := Lib.laidMet.reads h m1
    rw [laid_is] at hd
    obtain rfl := Option.some.inj (gShapes.symm.trans hg')
    obtain rfl := Option.some.inj (gShapesType.symm.trans ht')
    have hcs := cells_of_strs Tryd.underlying90 Tryd.underlying9 cells9 cells90 hd
    intro i hi
    rw [World.var?_cell gShapes hvar i, ← Array.getElem?_toList, hcs, strN_mk, List.getElem?_map, shapes_at i hi]
    rfl
  · obtain ⟨g', t', cs, fuel, p, hg', ht', hvar, hd⟩ := Lib.laidMet.reads h m2
    rw [words_laid] at hd
    obtain rfl := Option.some.inj (gWords.symm.trans hg')
    obtain rfl := Option.some.inj (gWordsType.symm.trans ht')
    have hcs := cells_of_strs Tryd.underlying90 Tryd.underlying9 cells9 cells90 hd
    intro i hi
    rw [World.var?_cell gWords hvar i, ← Array.getElem?_toList, hcs, List.getElem?_map]
    rw [show wordsS[i]? = some ((wordsS[i]?).getD []) by rw [List.getElem?_eq_getElem (show i < wordsS.length from hi)]; rfl]
    rfl
  · obtain ⟨g', t', cs, fuel, p, hg', ht', hvar, hd⟩ := Lib.laidMet.reads h m3
    rw [rels_laid] at hd
    obtain rfl := Option.some.inj (gRels.symm.trans hg')
    obtain rfl := Option.some.inj (gRelsType.symm.trans ht')
    have hcs := cells_of_strs Tryd.underlying123 Tryd.underlying9 cells9 cells123 hd
    intro i hi
    rw [World.var?_cell gRels hvar i, ← Array.getElem?_toList, hcs, List.getElem?_map]
    rw [show relsS[i]? = some ((relsS[i]?).getD []) by rw [List.getElem?_eq_getElem (show i < relsS.length from hi)]; rfl]
    rfl
  · obtain ⟨g', t', cs, fuel, p, hg', ht', hvar, hd⟩ := Lib.laidMet.reads h m4
    rw [pow_laid] at hd
    obtain rfl := Option.some.inj (gPow.symm.trans hg')
    obtain rfl := Option.some.inj (gPowType.symm.trans ht')
    unfold Lib.TabIs
    rw [hvar, ← Lib.cells_of_tab Tryd.underlying140 Tryd.underlying68 cells68 cells140 hd]

/-- The cells of a struct argument, each of its kind. -/
theorem okWide_parts {w : World} {r : Reach} {base : Nat} {t : TypeId} {v : Value} (ts : List TypeId) (hu : ∃ fs, Tryd.prog.underlying t = some (.struct fs)) (hts : Tryd.prog.cellTypes Tryd.prog.depth t = some ts) (hk : Tryd.prog.cellsOf t = ts.length)
    (h : Value.okWide Tryd.prog w r base t v) : ∃ l : List Value, v = .agg l.toArray ∧ l.length = ts.length ∧ ∀ (i : Nat) (u : Value), l[i]? = some u → ∃ k, ts[i]? = some k ∧ Cell.okWide Tryd.prog w r base k u := by
  obtain ⟨fs, hfs⟩ := hu
  unfold Value.okWide at h
  rw [hfs] at h
  obtain ⟨cs, rfl, hsz, ts', h1, _, h3⟩ := h
  rw [hts] at h1
  injection h1 with h1
  subst h1
  refine ⟨cs.toList, by simp, by simp [hsz, hk], fun i u hu => ?_⟩
  obtain ⟨k, h4, h5⟩ := h3 i u (by simpa using hu)
  have hlt : i < ts.length := by
    have := (List.getElem?_eq_some_iff.1 hu).1
    simpa [hsz, hk] using this
  rw [Nat.mod_eq_of_lt hlt] at h4
  exact ⟨k, h4, h5⟩
theorem cell_i64 {w : World} {r : Reach} {base : Nat} {v : Value} (hc : Cell.okWide Tryd.prog w r base 3 v) : ∃ n : Int, v = Value.int .i64 n ∧ Fits n := by
  unfold Cell.okWide at hc
  rw [Tryd.underlying3] at hc
  cases v with
  | int q n =>
    simp only [Cell.ok] at hc
    obtain ⟨rfl, h⟩ := hc
    exact ⟨n, rfl, (show IntKind.i64.min = -9223372036854775808 by decide) ▸ h.1, (show IntKind.i64.max = 9223372036854775807 by decide) ▸ h.2⟩
  | _ => simp_all [Cell.ok]
theorem open_ins {w : World} {r : Reach} {base : Nat} {v : Value} (h : Value.okWide Tryd.prog w r base 43 v) : ∃ x : Ins, v = x.val ∧ x.Ok := by
  obtain ⟨l, rfl, hl, hc⟩ := okWide_parts [3, 3, 3, 3, 3, 3] ⟨_, Tryd.underlying43⟩ (by kernel_rfl) (by kernel_rfl) h
  match l, hl with
  | [u0, u1, u2, u3, u4, u5], _ =>
    obtain ⟨k0, e0, c0⟩ := hc 0 u0 rfl
    obtain ⟨k1, e1, c1⟩ := hc 1 u1 rfl
    obtain ⟨k2, e2, c2⟩ := hc 2 u2 rfl
    obtain ⟨k3, e3, c3⟩ := hc 3 u3 rfl
    obtain ⟨k4, e4, c4⟩ := hc 4 u4 rfl
    obtain ⟨k5, e5, c5⟩ := hc 5 u5 rfl
    cases e0; cases e1; cases e2; cases e3; cases e4; cases e5
    obtain ⟨z0, rfl, f0⟩ := cell_i64 c0
    obtain ⟨z1, rfl, f1⟩ := cell_i64 c1
    obtain ⟨z2, rfl, f2⟩ := cell_i64 c2
    obtain ⟨z3, rfl, f3⟩ := cell_i64 c3
    obtain ⟨z4, rfl, f4⟩ := cell_i64 c4
    obtain ⟨z5, rfl, f5⟩ := cell_i64 c5
    exact ⟨⟨z0, z1, z2, z3, z4, z5⟩, rfl, f0, f1, f2, f3, f4, f5⟩

def bits32 : List Int := [0, 1, 28, 2, 29, 14, 24, 3, 30, 22, 20, 15, 25, 17, 4, 8, 31, 27, 13, 23, 21, 19, 16, 7, 26, 12, 18, 6, 11, 5, 10, 9]
def bits64 : List Int := [0, 1, 56, 2, 57, 49, 28, 3, 61, 58, 42, 50, 38, 29, 17, 4, 62, 47, 59, 36, 45, 43, 51, 22, 53, 39, 33, 30, 24, 18, 12, 5, 63, 55, 48, 27, 60, 41, 37, 16, 46, 35, 44, 21, 52, 32, 23, 11, 54, 26, 40, 15, 34, 20, 31, 10, 25, 14, 19, 9, 13, 8, 7, 6]
def putCells (cs : List Value) (o : Obj) : Obj := match o with
  | .cells _ t frozen => .cells cs.toArray t frozen
  | o => o
noncomputable def laidWorldA (os : Os) : World :=
  { World.holding Tryd.prog os ⟨#[], #[], []⟩ with heap := ((((((World.holding Tryd.prog os ⟨#[], #[], []⟩).heap.modify 0 (putCells (shapesS.map fun s => Value.string ⟨s.toArray⟩))).modify 1 (putCells (wordsS.map fun s => Value.string ⟨s.toArray⟩))).modify 2 (putCells (relsS.map fun s => Value.string ⟨s.toArray⟩))).modify 4 (putCells (Lib.pow10Tab.map fun z => Value.int .u64 z))).modify 7 (putCells (bits32.map fun z => Value.int .u8 z))).modify 8 (putCells (bits64.map fun z => Value.int .u8 z)) }
def laidA : List (String × DataW Unit) := [("math/bits.deBruijn32tab", Rows.laid_math_bits_deBruijn32tab), ("math/bits.deBruijn64tab", Rows.laid_math_bits_deBruijn64tab), ("internal/strconv.uint64pow10", Rows.laid_internal_strconv_uint64pow10), ("sluiceway/prog.shapes", Rows.laid_sluiceway_prog_shapes), ("sluiceway/asm.words", Rows.laid_sluiceway_asm_words), ("sluiceway/asm.relations", Rows.laid_sluiceway_asm_relations)]
theorem laid_metA (os : Os) (args : Array Value) : laidMetH Tryd.prog laidA ((laidWorldA os).forCall (fun _ _ => 0) ⟨#[], args, []⟩).memory := by
  rw [Go.MakeChecks.laidMetH_plain _ _ _ (by rfl)]
  exact laidMet_of_run' 8 (by kernel_rfl) (by kernel_rfl)
end Go.Proofs.YtkeckjgihjpfbaaDoor

/- Layer 7: the listed variables of the parsing laws; a start that holds them. -/
namespace Go.Proofs.YtkeckjgihjpfbaaDoor
set_option maxRecDepth 100000
open Go.ChangeShapes Go.WideShapes Go.ChangeAt Go.RowKit Go.Deep Go.Joins

theorem returns_listed {H : Type} {enc : TypeId × Value → H} {a : Assume} {C : Checked} {os : Os} {f : FuncId} {fn : Func} {s : ChangeSpec} {conds : List PathCond} {apart fresh handsOn again : Bool} {X : World → Array Value → Prop}
    (hX : ∀ (w w' : World) (args : Array Value), w.heap = w'.heap → X w args → X w' args)
    (own : ownKnob C.prog.godebug = none) (started : os.Started) (noInit : C.prog.inits.idxOf? f = none) (hfn : C.prog.funcs[f]? = some fn)
    (witness : ∃ (w : World) (tape : Tape) (i : Input), w.os = os ∧ (w.forCall tape i).Shaped C.prog ∧ i.vars = [] ∧ Input.okWide C.prog (w.forCall tape i) .any w.heap.size f i ∧
      ((s.pre enc C.prog fn conds apart (w.forCall tape i).memory i.args ∧ X (w.forCall tape i).memory i.args) ∧ sizedMet enc C.prog fn (OpenSpec.ofChange s) apart (w.forCall tape i).memory i.args) ∧ a.holds C.prog (lone (Frame.enter C.prog f i.args .normal) [] (w.forCall tape i)))
    (contract : ∀ (W : World) (base : Nat) (args : Array Value) (ds gs : List (DataW H)) (before : List MemPlace),
      (∀ (j : Nat) t v, fn.params[j]? = some t → args[j]? = some v → Value.okWide C.prog W .any base t v) →
      DataW.Whole enc C.prog fn.params.toList s.vars apart W args.toList ds gs before → X W args → W.ShapedOpen C.prog →
      Calls C.prog f args W fun e W' => ∃ v, e = .returned v ∧ s.post enc C.prog fn apart fresh handsOn again W args v W') :
    ReturnsInHanded a C os f .any (fun w args => (s.pre enc C.prog fn conds apart w args ∧ X w args) ∧ sizedMet enc C.prog fn (OpenSpec.ofChange s) apart w args) (s.post enc C.prog fn apart fresh handsOn again) := by
  refine returnsInHanded_of_calls own started noInit witness fun w tape i _ hsh _ hok hpre _ => ?_
  obtain ⟨_, _, _, g, hg, _, _, _, _, hval⟩ := hok
  obtain rfl : g = fn := Option.some.inj (hg.symm.trans hfn)
  obtain ⟨⟨⟨ds, gs, before, hw, _⟩, hx⟩, _⟩ := hpre
  refine (contract (w.forCall tape i) w.heap.size i.args ds gs before hval (DataW.Whole.of_heap (w' := w.forCall tape i) (by rfl) hw) (hX _ _ _ (by rfl) hx) hsh).mono fun e W' h => ?_
  obtain ⟨v, rfl, hp⟩ := h
  exact ChangeSpec.post_blind hp

theorem gES : Tryd.prog.globalNamed "strconv.ErrSyntax" = some 5 := by kernel_rfl
theorem gESType : (Tryd.prog.globals[5]?).map (·.type) = some 30 := by kernel_rfl
theorem gER : Tryd.prog.globalNamed "strconv.ErrRange" = some 6 := by kernel_rfl
theorem gERType : (Tryd.prog.globals[6]?).map (·.type) = some 30 := by kernel_rfl
theorem cells173 : Tryd.prog.cellsOf 173 = 1 := by kernel_rfl
theorem star : "*" ++ "errors.errorString" = "*errors.errorString" := by decide
theorem row171 : ∀ u, Tryd.prog.typeName? 3 u = some "*errors.errorString" → u = 171 := fun u h =>
  typeName_ptr_named (nm := "errors.errorString") (by rw [star]; kernel_rfl) (by kernel_rfl) (by decide) u (by rw [star]; exact h)
def laidE : List (String × DataW Unit) := [("math/bits.deBruijn32tab", Rows.laid_math_bits_deBruijn32tab), ("math/bits.deBruijn64tab", Rows.laid_math_bits_deBruijn64tab), ("internal/strconv.uint64pow10", Rows.laid_internal_strconv_uint64pow10), ("unicode/utf8.acceptRanges", Rows.laid_unicode_utf8_acceptRanges), ("sluiceway/prog.shapes", Rows.laid_sluiceway_prog_shapes), ("strconv.ErrRange", Rows.laid_strconv_ErrRange), ("strconv.ErrSyntax", Rows.laid_strconv_ErrSyntax), ("sluiceway/asm.words", Rows.laid_sluiceway_asm_words), ("sluiceway/asm.relations", Rows.laid_sluiceway_asm_relations), ("unicode/utf8.first", Rows.laid_unicode_utf8_first)]
theorem au_of_laid {W : World} (h : laidMet Tryd.prog laidE W) (hs : W.ShapedOpen Tryd.prog) : AU W := by
  refine ⟨at_of_laid h (by simp [laidE]) (by simp [laidE]) (by simp [laidE]) (by simp [laidE]), ?_, ?_, ?_⟩
  · obtain ⟨a0, s0, hv0, -, -, -⟩ := laid_sentinel h.tail.tail.tail.tail.tail.tail gES gESType Tryd.underlying30 row171 Tryd.underlying171 Tryd.underlying173 rfl rfl Tryd.underlying9 cells173 cells9
    exact ⟨_, _, by have h0 := World.var?_cell gES hv0 0; simpa using h0⟩
  · obtain ⟨a0, s0, hv0, -, -, -⟩ := laid_sentinel h.tail.tail.tail.tail.tail gER gERType Tryd.underlying30 row171 Tryd.underlying171 Tryd.underlying173 rfl rfl Tryd.underlying9 cells173 cells9
    exact ⟨_, _, by have h0 := World.var?_cell gER hv0 0; simpa using h0⟩
  · exact cell_of_shapedOpen_int (P := Tryd.prog) (g := 3) (t := 3) (zero := #[.int .i64 0]) hs (of_decide_eq_true (by kernel_rfl)) (by kernel_rfl) rfl (by kernel_rfl) (by kernel_rfl) Tryd.underlying3
noncomputable def low : Nat := (World.holding Tryd.prog default ⟨#[], #[], []⟩).heap.size
abbrev synS : ByteArray := { data := #[105, 110, 118, 97, 108, 105, 100, 32, 115, 121, 110, 116, 97, 120] }
abbrev rngS : ByteArray := { data := #[118, 97, 108, 117, 101, 32, 111, 117, 116, 32, 111, 102, 32, 114, 97, 110, 103, 101] }
def ranges : List Int := [128, 191, 160, 191, 128, 159, 144, 191, 128, 143, 0, 0, 0, 0, 0, 0, 0, 0, 0, 0, 0, 0, 0, 0, 0, 0, 0, 0, 0, 0, 0, 0]
noncomputable def laidWorldE (os : Os) : World :=
  let w0 := World.holding Tryd.prog os ⟨#[.cells #[.string synS] 173, .cells #[.string rngS] 173], #[], []⟩
  { w0 with heap := ((((((((((w0.heap.modify 0 (putCells (shapesS.map fun s => Value.string ⟨s.toArray⟩))).modify 1 (putCells (wordsS.map fun s => Value.string ⟨s.toArray⟩))).modify 2 (putCells (relsS.map fun s => Value.string ⟨s.toArray⟩))).modify 4 (putCells (Lib.pow10Tab.map fun z => Value.int .u64 z))).modify 5 (putCells [.iface 171 (.pointer (some ⟨low, 0, none⟩))])).modify 6 (putCells [.iface 171 (.pointer (some ⟨low + 1, 0, none⟩))])).modify 7 (putCells (bits32.map fun z => Value.int .u8 z))).modify 8 (putCells (bits64.map fun z => Value.int .u8 z))).modify 9 (putCells (Go.Pinned.utf8FirstZ.map fun (z : Nat) => Value.int .u8 (z : Int)))).modify 10 (putCells (ranges.map fun z => Value.int .u8 z))) }
theorem laid_metE (os : Os) (args : Array Value) : laidMetH Tryd.prog laidE ((laidWorldE os).forCall (fun _ _ => 0) ⟨#[], args, []⟩).memory := by
  rw [Go.MakeChecks.laidMetH_plain _ _ _ (by rfl)]
  exact laidMet_of_run' 8 (by kernel_rfl) (by kernel_rfl)
end Go.Proofs.YtkeckjgihjpfbaaDoor
