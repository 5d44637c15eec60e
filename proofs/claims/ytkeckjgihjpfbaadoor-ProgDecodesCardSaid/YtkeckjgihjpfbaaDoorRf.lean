/- The document's reader in memory: it reads bytes that came in. The contracts of fail, Byte, Flag, Done. -/
import Derived.Test.YtkeckjgihjpfbaaDoorChunk
import Derived.Test.YtkeckjgihjpfbaaDoorTake
import Derived.Test.YtkeckjgihjpfbaaDoorCodec
namespace Go.Proofs.YtkeckjgihjpfbaaDoor
set_option maxRecDepth 100000
open Go.RowKit

/-- The document's reader: its block, the bytes that are left of what came in. -/
structure Rf (w : World) (B g : Nat) (A : Option Addr) (n c : Nat) (bs : List Nat) (bad : Bool) : Prop where
  low : B ≤ g
  block : w.heap[g]? = some (.cells #[.slice A n c, .bool bad] 86 (0, 0))
  row : Rdv w A n 1 (valsB bs)
  lies : (A = none ∧ n = 0 ∧ c = 0) ∨ ∃ b off, A = some ⟨b, off, none⟩ ∧ b < B ∧ n ≤ c
  hbad : bad = true → bs = []
  small : ∀ x ∈ bs, x < 256
  len : n ≤ 140737488355328
def Rfx (w : World) (B g : Nat) (bs : List Nat) (bad : Bool) : Prop := ∃ A n c, Rf w B g A n c bs bad
theorem Rf.lt {w : World} {B g : Nat} {A : Option Addr} {n c : Nat} {bs : List Nat} {bad : Bool} (h : Rf w B g A n c bs bad) : g < w.heap.size := (Array.getElem?_eq_some_iff.1 h.block).1
theorem Rf.blen {w : World} {B g : Nat} {A : Option Addr} {n c : Nat} {bs : List Nat} {bad : Bool} (h : Rf w B g A n c bs bad) : bs.length = n := by have := h.row.1; rw [valsB_length] at this; omega
theorem Rf.c0 {w : World} {B g : Nat} {A : Option Addr} {n c : Nat} {bs : List Nat} {bad : Bool} (h : Rf w B g A n c bs bad) : w.cell? ⟨g, 0, none⟩ = some (.slice A n c) := cell_of_row w g 0 _ 86 (0, 0) h.block
theorem Rf.c1 {w : World} {B g : Nat} {A : Option Addr} {n c : Nat} {bs : List Nat} {bad : Bool} (h : Rf w B g A n c bs bad) : w.cell? ⟨g, 1, none⟩ = some (.bool bad) := cell_of_row w g 1 _ 86 (0, 0) h.block
theorem Rf.f {w : World} {B g : Nat} {A : Option Addr} {n c : Nat} {bs : List Nat} {bad : Bool} (h : Rf w B g A n c bs bad) (o : Nat) : w.frozen? ⟨g, o, none⟩ = false := by
  have := h.block
  simp [World.frozen?, this]
/-- It stands where its block stands and what came in. -/
theorem Rf.stays {w w' : World} {B g : Nat} {A : Option Addr} {n c : Nat} {bs : List Nat} {bad : Bool} (h : Rf w B g A n c bs bad) (hg : w'.heap[g]? = w.heap[g]?) (hk : ∀ k, k < B → w'.heap[k]? = w.heap[k]?) : Rf w' B g A n c bs bad := by
  refine ⟨h.low, hg.trans h.block, ⟨h.row.1, fun hn => ?_⟩, h.lies, h.hbad, h.small, h.len⟩
  obtain ⟨b, off, e, hc⟩ := h.row.2 hn
  rcases h.lies with ⟨_, h0, _⟩ | ⟨b', off', e', h1, h2⟩
  · omega
  · rw [e] at e'
    injection e' with e'
    injection e' with e1 e2 e3
    subst e1
    exact ⟨b, off, e, fun j u hj => by rw [← hc j u hj]; exact World.cell?_of_block (hk b h1)⟩
theorem Rfx.stays {w w' : World} {B g : Nat} {bs : List Nat} {bad : Bool} (h : Rfx w B g bs bad) (hg : w'.heap[g]? = w.heap[g]?) (hk : ∀ k, k < B → w'.heap[k]? = w.heap[k]?) : Rfx w' B g bs bad := by
  obtain ⟨A, n, c, h⟩ := h
  exact ⟨A, n, c, h.stays hg hk⟩
theorem Rfx.small {w : World} {B g : Nat} {bs : List Nat} {bad : Bool} (h : Rfx w B g bs bad) : ∀ x ∈ bs, x < 256 := by
  obtain ⟨A, n, c, h⟩ := h
  exact h.small
theorem Rfx.empty {w : World} {B g : Nat} {bs : List Nat} (h : Rfx w B g bs true) : bs = [] := by
  obtain ⟨A, n, c, h⟩ := h
  exact h.hbad rfl
theorem Rfx.len {w : World} {B g : Nat} {bs : List Nat} {bad : Bool} (h : Rfx w B g bs bad) : bs.length ≤ 140737488355328 := by
  obtain ⟨A, n, c, h⟩ := h
  rw [h.blen]; exact h.len
/-- Only the reader's block is changed. -/
abbrev OnlyG (w w' : World) (g : Nat) : Prop := Only w w' (.pointer (some ⟨g, 0, none⟩))
theorem OnlyG.at {w w' : World} {g : Nat} (h : OnlyG w w' g) {k : Nat} (hk : k < w.heap.size) (hne : k ≠ g) : w'.heap[k]? = w.heap[k]? :=
  h.block k hk (fun he => by injection he with he; injection he with he; injection he with he; exact hne he.symm)
/-- The first m bytes are taken. -/
theorem Rf.cut {w : World} {B g b off n c : Nat} {bs : List Nat} (h : Rf w B g (some ⟨b, off, none⟩) n c bs false) (m : Nat) (hmn : m ≤ n) (off' c' : Nat) (ho : off' = off + m ∨ n = m) (hc : n - m ≤ c') :
    Rf (w.setCell ⟨g, 0, none⟩ (.slice (some ⟨b, off', none⟩) (n - m) c')) B g (some ⟨b, off', none⟩) (n - m) c' (bs.drop m) false := by
  have hl := h.blen
  have h1 : b < B := by
    rcases h.lies with ⟨h0, _⟩ | ⟨b', off', e', h1, h2⟩
    · cases h0
    · injection e' with e'; injection e' with e1; omega
  have hbg : b ≠ g := by have := h.low; omega
  have hcell : ∀ o, (w.setCell ⟨g, 0, none⟩ (.slice (some ⟨b, off', none⟩) (n - m) c')).cell? ⟨b, o, none⟩ = w.cell? ⟨b, o, none⟩ := fun o => World.cell?_of_block (Deep.blk_setCell_other w ⟨g, 0, none⟩ _ b hbg)
  have hblock := h.block
  refine ⟨h.low, ?_, ⟨by rw [valsB_length, List.length_drop]; omega, fun _ => ⟨b, off', rfl, fun j u hj => ?_⟩⟩, .inr ⟨b, off', rfl, h1, hc⟩, (fun h => by cases h), (fun x hx => h.small x (List.mem_of_mem_drop hx)), by have := h.len; omega⟩
  · simp [World.setCell, Array.getElem?_modify, hblock]
  · rw [valsB_get, List.getElem?_drop] at hj
    cases hx : bs[m + j]? with
    | none => rw [hx] at hj; cases hj
    | some x =>
      rw [hx] at hj
      cases hj
      have hj' := (List.getElem?_eq_some_iff.1 hx).1
      obtain ⟨b', o', e, hc'⟩ := h.row.2 (by omega)
      injection e with e
      injection e with e1 e2
      subst e1 e2
      rcases ho with rfl | rfl
      · rw [hcell, Nat.add_assoc]
        exact hc' _ _ (by rw [valsB_get, hx]; rfl)
      · omega
theorem Rf.cellAt {w : World} {B g : Nat} {A : Option Addr} {n c : Nat} {bs : List Nat} {bad : Bool} (h : Rf w B g A n c bs bad) (hn : 0 < n) : ∃ b off, A = some ⟨b, off, none⟩ ∧ n ≤ c ∧ ∀ j (hj : j < bs.length), w.cell? ⟨b, off + j, none⟩ = some (.int .u8 ((bs[j] : Nat) : Int)) := by
  obtain ⟨b, off, e, hc⟩ := h.row.2 hn
  rcases h.lies with ⟨_, h0, _⟩ | ⟨b', off', e', h1, h2⟩
  · omega
  · exact ⟨b, off, e, h2, fun j hj => hc j _ (by rw [valsB_get, List.getElem?_eq_getElem hj]; rfl)⟩

set_option maxHeartbeats 400000 in
theorem mfail_any (B g : Nat) (bs : List Nat) (bad : Bool) (w : World) (h : Rfx w B g bs bad) :
    Calls Tryd.prog 79 #[.pointer (some ⟨g, 0, none⟩)] w fun e w' => e = .returned (.tuple #[]) ∧ Rfx w' B g [] true ∧ OnlyG w w' g := by
  obtain ⟨A, n, c, h⟩ := h
  have c0 := h.c0
  have c1 := h.c1
  have f0 := h.f 0
  have f1 := h.f 1
  have HB := Lib.hid h.block
  have low := h.low
  clear h
  go_enter Tryd.func79, Tryd.ntmps79
  go_wp2_with fail
  refine bodyPost_end (v := .tuple #[]) (by simp [results, Tryd.results79, go_sem]) rfl ⟨rfl, ?_, (Only.set _ _ _ _).trans (Only.set _ _ _ _)⟩
  have hb := HB.out
  refine ⟨none, 0, 0, low, ?_, ⟨rfl, fun h => absurd h (by omega)⟩, .inl ⟨rfl, rfl, rfl⟩, (fun _ => rfl), (fun x hx => by cases hx), by omega⟩
  simp [World.setCell, Array.getElem?_modify, hb]
set_option maxHeartbeats 400000 in
theorem mdone_any (B g : Nat) (bs : List Nat) (bad : Bool) (w : World) (h : Rfx w B g bs bad) :
    Calls Tryd.prog 53 #[.pointer (some ⟨g, 0, none⟩)] w fun e w' => e = .returned (.bool (!bad && decide (bs = []))) ∧ w = w' := by
  obtain ⟨A, n, c, h⟩ := h
  have c0 := h.c0
  have c1 := h.c1
  have hl := h.blen
  have hn : decide (bs = []) = decide (n = 0) := decide_eq_decide.2 ⟨fun e => by rw [e] at hl; simpa using hl.symm, fun e => List.eq_nil_of_length_eq_zero (by omega)⟩
  rw [hn]
  clear h hl hn
  cases bad with
  | true =>
    go_enter Tryd.func53, Tryd.ntmps53
    go_wp2_with fail
    go_ret
    exact ⟨rfl, rfl⟩
  | false =>
    by_cases h0 : n = 0
    · subst h0
      go_enter Tryd.func53, Tryd.ntmps53
      go_wp2_with fail
      go_ret
      exact ⟨rfl, rfl⟩
    · have hp : 0 < n := Nat.pos_of_ne_zero h0
      have HD := Lib.hid (decide_eq_false h0)
      clear h0
      go_enter Tryd.func53, Tryd.ntmps53
      go_wp2_with fail
      go_ret
      exact ⟨by rw [HD.out]; exact ret_bool (by simp; omega), rfl⟩

set_option maxHeartbeats 400000 in
theorem mbyte_any (B g : Nat) (bs : List Nat) (bad : Bool) (w : World) (h : Rfx w B g bs bad) :
    Calls Tryd.prog 51 #[.pointer (some ⟨g, 0, none⟩)] w fun e w' => e = .returned (.int .u8 ((byteT bs : Nat) : Int)) ∧ Rfx w' B g (bs.drop 1) (bad || decide (bs.length = 0)) ∧ OnlyG w w' g := by
  have HF := Lib.hid (mfail_any B g bs bad w h)
  obtain ⟨A, n, c, h⟩ := h
  have c0 := h.c0
  have c1 := h.c1
  have hl := h.blen
  cases bad with
  | true =>
    obtain rfl : bs = [] := h.hbad rfl
    clear h hl
    go_enter Tryd.func51, Tryd.ntmps51
    go_wp2_with fail
    refine Calls.mono HF.out ?_
    rintro e w1 ⟨rfl, h1, h2⟩
    have H1 := Lib.hid h1
    have H2 := Lib.hid h2
    clear h1 h2
    go_wp2_with fail
    go_ret
    exact ⟨rfl, H1.out, H2.out⟩
  | false =>
    rcases bs with _ | ⟨x, t⟩
    · obtain rfl : n = 0 := by simpa using hl.symm
      clear h hl
      go_enter Tryd.func51, Tryd.ntmps51
      go_wp2_with fail
      refine Calls.mono HF.out ?_
      rintro e w1 ⟨rfl, h1, h2⟩
      have H1 := Lib.hid h1
      have H2 := Lib.hid h2
      clear h1 h2
      go_wp2_with fail
      go_ret
      exact ⟨rfl, H1.out, H2.out⟩
    · have hn : 0 < n := by simp at hl; omega
      obtain ⟨b, off, rfl, hnc, hcell⟩ := h.cellAt hn
      have k0 : w.cell? ⟨b, off, none⟩ = some (.int .u8 (x : Int)) := hcell 0 (by simp)
      have f0 := h.f 0
      have hA : (⟨b, off, none⟩ : Addr).add 1 = ⟨b, off + 1, none⟩ := addr_plus b off 1
      have HC := Lib.hid (fun off' c' => h.cut 1 hn off' c')
      have hlen := h.len
      clear h hl hcell HF
      go_enter Tryd.func51, Tryd.ntmps51
      go_wp2_with fail
      case inl =>
        have H1 := Lib.hid (HC.out off 0 (.inr (by omega)) (by omega))
        go_ret
        exact ⟨rfl, ⟨_, _, _, H1.out⟩, Only.set _ _ _ _⟩
      case inr =>
        have H1 := Lib.hid (HC.out (off + 1) (c - 1) (.inl rfl) (by omega))
        go_ret
        exact ⟨rfl, ⟨_, _, _, H1.out⟩, Only.set _ _ _ _⟩
end Go.Proofs.YtkeckjgihjpfbaaDoor
