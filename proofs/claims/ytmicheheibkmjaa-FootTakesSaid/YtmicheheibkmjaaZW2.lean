/- Write, Rf, RfC, RfN, Over, Read, Err, Copy: put together. -/
import Derived.Test.YtmicheheibkmjaaZW1
import Derived.BigQuiet
import Derived.Deep.QuietTactic
import Derived.Laws.MakeOwn
/- The contract of the law's write: a value, written by both. -/
namespace Go.Proofs.Ytmicheheibkmjaa
set_option maxRecDepth 100000
open Go.RowKit

theorem OwnB.base {w : World} {B B' : Nat} {v : Value} {xs : List Nat} (h : OwnB w B v xs) (hb : B' ≤ B) : OwnB w B' v xs := by
  refine ⟨h.1, ?_⟩
  rcases h.2 with h0 | ⟨g, cap, cur, e, h1, h2⟩
  · exact .inl h0
  · exact .inr ⟨g, cap, cur, e, Nat.le_trans hb h1, h2⟩
theorem Wrote.before {w w1 w' : World} {B g : Nat} {v v' : Value} {xs : List Nat} (h : Wrote w w1 B g v v' xs) (k : Below w1.heap.size w1 w') : Wrote w w' B g v v' xs := by
  refine ⟨h.wtr.ext k, ⟨k.os.trans h.touch.os, k.tape.trans h.touch.tape, k.output.trans h.touch.output, Nat.le_trans h.touch.size k.size, fun j hj h1 h2 => (k.block j (Nat.lt_of_lt_of_le hj h.touch.size)).trans (h.touch.block j hj h1 h2)⟩, h.row⟩
theorem Wrote.cell {w w' : World} {B g : Nat} {v v' : Value} {xs : List Nat} (h : Wrote w w' B g v v' xs) {p : Addr} (hp : p.block < w.heap.size) (hg : p.block ≠ g) (hr : v.ownBlock ≠ some p.block) : w'.cell? p = w.cell? p :=
  World.cell?_of_block (h.touch.block p.block hp hg hr)
theorem AwayB.alloc {w : World} {g : Nat} {v : Value} {A : Option Addr} (h : AwayB w g v A) (hg : g < w.heap.size) (hv : ∀ k, v.ownBlock = some k → k < w.heap.size) (o : Obj) : AwayB (w.alloc o) g v A := by
  intro ad e hlt
  rw [World.size_alloc] at hlt
  rcases Nat.lt_or_ge ad.block w.heap.size with h1 | h1
  · exact h ad e h1
  · exact ⟨by omega, fun he => by have := hv _ he; omega⟩
/-- A value's bytes. -/
def enc (k n : Int) (u : Nat) (ys : List Nat) : List Nat :=
  if k = 1 then cntN (foldN n) else if k = 2 then [flagN (decide (n = 1))] else if k = 3 then cntN ys.length ++ ys else if k = 4 then cntN ys.length ++ ys
  else if k = 5 then [(n % 256).toNat] else cntN u
/-- A value in a block. -/
def valC (k n : Int) (u : Nat) (A : Option Addr) (m c : Nat) : Array Value := #[.int .i64 k, .int .i64 n, .int .u64 (u : Int), .slice A m c]
/-- What a writer's call and the answer behind it make. -/
structure Both (w w' : World) (B g : Nat) (v v' r : Value) (xs ys : List Nat) : Prop where
  wrote : Wrote w w' B g v v' (xs ++ ys)
  own : OwnB w' w.heap.size r ys
theorem Both.make {w w1 w2 : World} {o : Obj} {B g : Nat} {v v' r : Value} {xs ys : List Nat} (h : Wrote (w.alloc o) w1 B g v v' (xs ++ ys)) (k : Below w1.heap.size w1 w2) (hr : OwnB w2 w1.heap.size r ys) : Both w w2 B g v v' r xs ys :=
  ⟨(Wrote.after_alloc h).before k, hr.base (Wrote.after_alloc h).touch.size⟩

end Go.Proofs.Ytmicheheibkmjaa

/- The document's reader in memory: it reads bytes that came in. The contracts of fail, Byte, Flag, Done. -/
namespace Go.Proofs.Ytmicheheibkmjaa
set_option maxRecDepth 100000
open Go.RowKit

/-- The document's reader: its block, the bytes that are left of what came in. -/
structure Rf (w : World) (B g : Nat) (A : Option Addr) (n c : Nat) (bs : List Nat) (bad : Bool) : Prop where
  low : B ≤ g
  block : w.heap[g]? = some (.cells #[.slice A n c, .bool bad] 88 (0, 0))
  row : Rdv w A n 1 (valsB bs)
  lies : (A = none ∧ n = 0 ∧ c = 0) ∨ ∃ b off, A = some ⟨b, off, none⟩ ∧ b < B ∧ n ≤ c
  hbad : bad = true → bs = []
  small : ∀ x ∈ bs, x < 256
  len : n ≤ 140737488355328
def Rfx (w : World) (B g : Nat) (bs : List Nat) (bad : Bool) : Prop := ∃ A n c, Rf w B g A n c bs bad
theorem Rf.lt {w : World} {B g : Nat} {A : Option Addr} {n c : Nat} {bs : List Nat} {bad : Bool} (h : Rf w B g A n c bs bad) : g < w.heap.size := (Array.getElem?_eq_some_iff.1 h.block).1
theorem Rf.blen {w : World} {B g : Nat} {A : Option Addr} {n c : Nat} {bs : List Nat} {bad : Bool} (h : Rf w B g A n c bs bad) : bs.length = n := by have := h.row.1; rw [valsB_length] at this; omega
theorem Rf.c0 {w : World} {B g : Nat} {A : Option Addr} {n c : Nat} {bs : List Nat} {bad : Bool} (h : Rf w B g A n c bs bad) : w.cell? ⟨g, 0, none⟩ = some (.slice A n c) := cell_of_row w g 0 _ 88 (0, 0) h.block
theorem Rf.c1 {w : World} {B g : Nat} {A : Option Addr} {n c : Nat} {bs : List Nat} {bad : Bool} (h : Rf w B g A n c bs bad) : w.cell? ⟨g, 1, none⟩ = some (.bool bad) := cell_of_row w g 1 _ 88 (0, 0) h.block
theorem Rf.f {w : World} {B g : Nat} {A : Option Addr} {n c : Nat} {bs : List Nat} {bad : Bool} (h : Rf w B g A n c bs bad) (o : Nat) : w.frozen? ⟨g, o, none⟩ = false := by
  have := h.block
  simp [World.frozen?, this]
/-- It stands where its block stands and what came in. -/
theorem Rf.stays {w w' : World} {B g : Nat} {A : Option Addr} {n c : Nat} {bs : List Nat} {bad : Bool} (h : Rf w B g A n c bs bad) (hg : w'.heap[g]? = w.heap[g]?) (hk : ∀ k, k < B → w'.heap[k]? = w.heap[k]?) : Rf w' B g A n c bs bad := by
  refine ⟨h.low, hg.trans h.block, ⟨h.row.1, fun hn => ?_⟩, h.lies, h.hbad, h.small, h.len⟩
  obtain ⟨b, off, e, hc⟩ := h.row.2 hn
  rcases h.lies with ⟨_, h0, _⟩ | ⟨b', off', e', h1, h2⟩
  · omega
  · rw [e] at e'
    injection e' with e'
    injection e' with e1 e2 e3
    subst e1
    exact ⟨b, off, e, fun j u hj => by rw [← hc j u hj]; exact World.cell?_of_block (hk b h1)⟩
theorem Rfx.stays {w w' : World} {B g : Nat} {bs : List Nat} {bad : Bool} (h : Rfx w B g bs bad) (hg : w'.heap[g]? = w.heap[g]?) (hk : ∀ k, k < B → w'.heap[k]? = w.heap[k]?) : Rfx w' B g bs bad := by
  obtain ⟨A, n, c, h⟩ := h
  exact ⟨A, n, c, h.stays hg hk⟩
theorem Rfx.small {w : World} {B g : Nat} {bs : List Nat} {bad : Bool} (h : Rfx w B g bs bad) : ∀ x ∈ bs, x < 256 := by
  obtain ⟨A, n, c, h⟩ := h
  exact h.small
theorem Rfx.empty {w : World} {B g : Nat} {bs : List Nat} (h : Rfx w B g bs true) : bs = [] := by
  obtain ⟨A, n, c, h⟩ := h
  exact h.hbad rfl
theorem Rfx.len {w : World} {B g : Nat} {bs : List Nat} {bad : Bool} (h : Rfx w B g bs bad) : bs.length ≤ 140737488355328 := by
  obtain ⟨A, n, c, h⟩ := h
  rw [h.blen]; exact h.len
/-- Only the reader's block is changed. -/
abbrev OnlyG (w w' : World) (g : Nat) : Prop := Only w w' (.pointer (some ⟨g, 0, none⟩))
theorem OnlyG.at {w w' : World} {g : Nat} (h : OnlyG w w' g) {k : Nat} (hk : k < w.heap.size) (hne : k ≠ g) : w'.heap[k]? = w.heap[k]? :=
  h.block k hk (fun he => by injection he with he; injection he with he; injection he with he; exact hne he.symm)
/-- The first m bytes are taken. -/
theorem Rf.cut {w : World} {B g b off n c : Nat} {bs : List Nat} (h : Rf w B g (some ⟨b, off, none⟩) n c bs false) (m : Nat) (hmn : m ≤ n) (off' c' : Nat) (ho : off' = off + m ∨ n = m) (hc : n - m ≤ c') :
    Rf (w.setCell ⟨g, 0, none⟩ (.slice (some ⟨b, off', none⟩) (n - m) c')) B g (some ⟨b, off', none⟩) (n - m) c' (bs.drop m) false := by
  have hl := h.blen
  have h1 : b < B := by
    rcases h.lies with ⟨h0, _⟩ | ⟨b', off', e', h1, h2⟩
    · cases h0
    · injection e' with e'; injection e' with e1; omega
  have hbg : b ≠ g := by have := h.low; omega
  have hcell : ∀ o, (w.setCell ⟨g, 0, none⟩ (.slice (some ⟨b, off', none⟩) (n - m) c')).cell? ⟨b, o, none⟩ = w.cell? ⟨b, o, none⟩ := fun o => World.cell?_of_block (Deep.blk_setCell_other w ⟨g, 0, none⟩ _ b hbg)
  have hblock := h.block
  refine ⟨h.low, ?_, ⟨by rw [valsB_length, List.length_drop]; omega, fun _ => ⟨b, off', rfl, fun j u hj => ?_⟩⟩, .inr ⟨b, off', rfl, h1, hc⟩, (fun h => by cases h), (fun x hx => h.small x (List.mem_of_mem_drop hx)), by have := h.len; omega⟩
  · simp [World.setCell, Array.getElem?_modify, hblock]
  · rw [valsB_get, List.getElem?_drop] at hj
    cases hx : bs[m + j]? with
    | none => rw [hx] at hj; cases hj
    | some x =>
      rw [hx] at hj
      cases hj
      have hj' := (List.getElem?_eq_some_iff.1 hx).1
      obtain ⟨b', o', e, hc'⟩ := h.row.2 (by omega)
      injection e with e
      injection e with e1 e2
      subst e1 e2
      rcases ho with rfl | rfl
      · rw [hcell, Nat.add_assoc]
        exact hc' _ _ (by rw [valsB_get, hx]; rfl)
      · omega
theorem Rf.cellAt {w : World} {B g : Nat} {A : Option Addr} {n c : Nat} {bs : List Nat} {bad : Bool} (h : Rf w B g A n c bs bad) (hn : 0 < n) : ∃ b off, A = some ⟨b, off, none⟩ ∧ n ≤ c ∧ ∀ j (hj : j < bs.length), w.cell? ⟨b, off + j, none⟩ = some (.int .u8 ((bs[j] : Nat) : Int)) := by
  obtain ⟨b, off, e, hc⟩ := h.row.2 hn
  rcases h.lies with ⟨_, h0, _⟩ | ⟨b', off', e', h1, h2⟩
  · omega
  · exact ⟨b, off, e, h2, fun j hj => hc j _ (by rw [valsB_get, List.getElem?_eq_getElem hj]; rfl)⟩

set_option maxHeartbeats 400000 in
theorem mfail_any (B g : Nat) (bs : List Nat) (bad : Bool) (w : World) (h : Rfx w B g bs bad) :
    Calls Try.prog 95 #[.pointer (some ⟨g, 0, none⟩)] w fun e w' => e = .returned (.tuple #[]) ∧ Rfx w' B g [] true ∧ OnlyG w w' g := by
  obtain ⟨A, n, c, h⟩ := h
  have c0 := h.c0
  have c1 := h.c1
  have f0 := h.f 0
  have f1 := h.f 1
  have HB := Lib.hid h.block
  have low := h.low
  clear h
  go_enter Try.func95, Try.ntmps95
  go_wp2_with fail
  refine bodyPost_end (v := .tuple #[]) (by simp [results, Try.results95, go_sem]) rfl ⟨rfl, ?_, (Only.set _ _ _ _).trans (Only.set _ _ _ _)⟩
  have hb := HB.out
  refine ⟨none, 0, 0, low, ?_, ⟨rfl, fun h => absurd h (by omega)⟩, .inl ⟨rfl, rfl, rfl⟩, (fun _ => rfl), (fun x hx => by cases hx), by omega⟩
  simp [World.setCell, Array.getElem?_modify, hb]
set_option maxHeartbeats 400000 in
theorem mdone_any (B g : Nat) (bs : List Nat) (bad : Bool) (w : World) (h : Rfx w B g bs bad) :
    Calls Try.prog 64 #[.pointer (some ⟨g, 0, none⟩)] w fun e w' => e = .returned (.bool (!bad && decide (bs = []))) ∧ w = w' := by
  obtain ⟨A, n, c, h⟩ := h
  have c0 := h.c0
  have c1 := h.c1
  have hl := h.blen
  have hn : decide (bs = []) = decide (n = 0) := decide_eq_decide.2 ⟨fun e => by rw [e] at hl; simpa using hl.symm, fun e => List.eq_nil_of_length_eq_zero (by omega)⟩
  rw [hn]
  clear h hl hn
  cases bad with
  | true =>
    go_enter Try.func64, Try.ntmps64
    go_wp2_with fail
    go_ret
    exact ⟨rfl, rfl⟩
  | false =>
    by_cases h0 : n = 0
    · subst h0
      go_enter Try.func64, Try.ntmps64
      go_wp2_with fail
      go_ret
      exact ⟨rfl, rfl⟩
    · have hp : 0 < n := Nat.pos_of_ne_zero h0
      have HD := Lib.hid (decide_eq_false h0)
      clear h0
      go_enter Try.func64, Try.ntmps64
      go_wp2_with fail
      go_ret
      exact ⟨by rw [HD.out]; exact ret_bool (by simp; omega), rfl⟩

end Go.Proofs.Ytmicheheibkmjaa

/- The contract of the document's reader's Count. -/
namespace Go.Proofs.Ytmicheheibkmjaa
set_option maxRecDepth 100000
open Go.RowKit

theorem Rdv.drewN {w : World} {A : Option Addr} {n size : Nat} {ys : List Value} (h : Rdv w A n size ys) (k : Nat) : Rdv (w.drewN k) A n size ys := h.ext (fun _ _ => rfl)
theorem Rf.below {w w' : World} {B g : Nat} {A : Option Addr} {n c : Nat} {bs : List Nat} {bad : Bool} (h : Rf w B g A n c bs bad) (k : Below w.heap.size w w') : Rf w' B g A n c bs bad :=
  h.stays (k.block g h.lt) (fun j hj => k.block j (by have := h.lt; have := h.low; omega))
set_option maxHeartbeats 400000 in
theorem mcount_bad (B g : Nat) (bs : List Nat) (w : World) (h : Rfx w B g bs true) :
    Calls Try.prog 87 #[.pointer (some ⟨g, 0, none⟩)] w fun e w' => e = .returned (.int .u64 0) ∧ Rfx w' B g [] true ∧ OnlyG w w' g := by
  have HF := Lib.hid (mfail_any B g bs true w h)
  obtain rfl := h.empty
  obtain ⟨A, n, c, h⟩ := h
  obtain rfl : n = 0 := by simpa using h.blen.symm
  have c0 := h.c0
  have c1 := h.c1
  clear h
  go_enter Try.func87, Try.ntmps87
  go_wp2_with fail
  refine wp_loop_rounds 1 ?_
  rw [rounds_succ]
  go_wp2_with fail
  refine Calls.mono HF.out ?_
  rintro e w1 ⟨rfl, h1, h2⟩
  have H1 := Lib.hid h1
  have H2 := Lib.hid h2
  clear h1 h2
  go_wp2_with fail
  go_ret
  exact ⟨rfl, H1.out, H2.out⟩
set_option maxHeartbeats 2000000 in
theorem mcount_good (B g : Nat) (bs : List Nat) (w : World) (h : Rfx w B g bs false) :
    Calls Try.prog 87 #[.pointer (some ⟨g, 0, none⟩)] w fun e w' => e = .returned (.int .u64 (((rcount bs).1 : Nat) : Int)) ∧ Rfx w' B g (rcount bs).2.1 (rcount bs).2.2 ∧ OnlyG w w' g := by
  have HF := Lib.hid (fun w (h : Rfx w B g bs false) => mfail_any B g bs false w h)
  have hsm := h.small
  obtain ⟨A, n, c, h⟩ := h
  have hl := h.blen
  have hlen := h.len
  have c0 := h.c0
  have c1 := h.c1
  have HH := Lib.hid h
  have HC := Lib.hid (fun hn => h.cellAt hn)
  have HL := Lib.hid hl
  have HNO := Lib.hid (fun k hk hend => rcount_no (k := k) hsm hk hend)
  have HAT := Lib.hid (fun k hlt hk hq u hu => rcount_at (k := k) hsm hlt hk hq u hu)
  have HSM := Lib.hid hsm
  obtain ⟨R, hR⟩ : ∃ R, R = rcount bs := ⟨_, rfl⟩
  rw [← hR] at HNO HAT ⊢
  clear h hl hR hsm
  go_enter Try.func87, Try.ntmps87
  go_wp2_with fail
  go_loop [3] (fun i => ∃ k : Nat, i = .int .i64 (k : Int) ∧ k ≤ n ∧ k ≤ 10 ∧ ∀ j (h : j < bs.length), j < k → 128 ≤ bs[j]) (fun i => 10 - (intOf i).toNat)
  case atStart => exact ⟨0, rfl, by omega, by omega, fun j _ h => absurd h (by omega)⟩
  case round =>
    obtain ⟨k, rfl, hkn, hk10, hall⟩ := hrel
    have HALL := Lib.hid hall
    clear hall
    by_cases hlt : k < n
    · by_cases h10 : k < 10
      · obtain ⟨b, off, rfl, hnc, hcell⟩ := HC.out (by omega)
        have hk0 := hcell k (by rw [HL.out]; exact hlt)
        have HCELL := Lib.hid hcell
        obtain ⟨x, hx⟩ : ∃ x, x = bs[k]'(by rw [HL.out]; exact hlt) := ⟨_, rfl⟩
        rw [← hx] at hk0
        have HX := Lib.hid hx
        clear hx hcell
        by_cases hge : 128 ≤ x
        · go_wp2_with fail
          go_round
          case rel =>
            refine ⟨k + 1, by go_num, by omega, by omega, fun j hj hjk => ?_⟩
            rcases Nat.lt_or_ge j k with h1 | h1
            · exact HALL.out j hj h1
            · obtain rfl : j = k := by omega
              rw [← HX.out]; exact hge
          case measure => simp [intOf]; omega
        · go_wp2_with fail
          clear hk0
          obtain ⟨l, hlt2⟩ : ∃ l, l = bs.take (k + 1) := ⟨_, rfl⟩
          have hll : l.length = k + 1 := by rw [hlt2, List.length_take, HL.out]; omega
          have HLT := Lib.hid hlt2
          have HLL := Lib.hid hll
          have hcl : ∀ j (h : j < l.length), w.cell? ⟨b, off + j, none⟩ = some (.int .u8 ((l[j] : Nat) : Int)) ∧ l[j] < 256 := fun j h => by
            have hj : j < bs.length := by rw [HL.out]; omega
            have e : l[j] = bs[j] := by simp [hlt2]
            rw [e]
            exact ⟨HCELL.out j hj, HSM.out _ (List.getElem_mem hj)⟩
          have HCL := Lib.hid hcl
          clear hlt2 hll hcl
          go_loop [4, 5] (fun u i => ∃ j : Nat, i = .int .i64 ((j : Int) - 1) ∧ j ≤ k + 1 ∧ u = .int .u64 ((valH (l.drop j) % 18446744073709551616 : Nat) : Int)) (fun _ i => (intOf i + 1).toNat)
          case atStart => exact ⟨k + 1, by go_num, by omega, by rw [List.drop_eq_nil_of_le (by rw [HLL.out]; omega)]; rfl⟩
          case round =>
            obtain ⟨j, rfl, hj, rfl⟩ := hrel
            by_cases hj0 : 0 < j
            · obtain ⟨i, rfl⟩ : ∃ i, j = i + 1 := ⟨j - 1, by omega⟩
              have hil : i < l.length := by rw [HLL.out]; omega
              obtain ⟨hci, hb256⟩ := HCL.out i hil
              obtain ⟨y, hy⟩ : ∃ y, y = l[i] := ⟨_, rfl⟩
              have hst := valH_step l i hil
              rw [← hy] at hci hb256 hst
              obtain ⟨v, hv⟩ : ∃ v, v = valH (l.drop (i + 1)) % 18446744073709551616 := ⟨_, rfl⟩
              have hst2 : valH (l.drop i) % 18446744073709551616 = (128 * v + y % 128) % 18446744073709551616 := by rw [hst, hv]; omega
              rw [← hv]
              have hv64 : v < 18446744073709551616 := by omega
              have HST := Lib.hid hst2
              clear hst hst2 hy hv
              go_wp2_with fail
              refine ⟨⟨i, rfl, by omega, ?_⟩, by simp [intOf]⟩
              rw [HST.out, IntKind.wrap_u64, IntKind.wrap_u64]
              congr 1
              omega
            · obtain rfl : j = 0 := by omega
              rw [List.drop_zero]
              have hat := HAT.out k (by rw [HL.out]; exact hlt) HALL.out (by rw [← HX.out]; omega) _ rfl
              rw [← HLT.out] at hat
              obtain ⟨u, hu⟩ : ∃ u, u = valH l % 18446744073709551616 := ⟨_, rfl⟩
              rw [← hu] at hat ⊢
              have hu64 : u < 18446744073709551616 := by omega
              have HAT2 := Lib.hid hat
              have HRC := Lib.hid (refCount_any u hu64 w)
              have hls : ∀ x ∈ l, x < 256 := fun x hx => HSM.out x (by rw [HLT.out] at hx; exact List.mem_of_mem_take hx)
              have HEQ := Lib.hid (strN_beq (cntN u) l (cntN_small_all u) hls)
              clear hu hat hls
              go_wp2_with fail
              refine Calls.mono HRC.out ?_
              rintro e w1 ⟨v, rfl, h1, h2⟩
              obtain ⟨A1, k1, rfl, h3, h4, h5⟩ := h1.rdv
              have H2 := Lib.hid h2
              have hh1 := HH.out.below h2
              have HH1 := Lib.hid hh1
              have c0' := hh1.c0
              have f0' := hh1.f 0
              have e1 := fun nq => run_str (w1.drewN nq) A1 _ k1 _ (h3.drewN nq)
              have hrl : Rdv w1 (some ⟨b, off, none⟩) (k + 1) 1 (valsB l) := ⟨by rw [valsB_length, HLL.out]; omega, fun _ => ⟨b, off, rfl, fun j v hj => by
                rw [valsB_get] at hj
                cases hx : l[j]? with
                | none => rw [hx] at hj; cases hj
                | some z =>
                  rw [hx] at hj
                  cases hj
                  have hjl := (List.getElem?_eq_some_iff.1 hx).1
                  rw [stays_b h2 _ (World.block_lt_of_cell? _ _ (HCL.out j hjl).1), (HCL.out j hjl).1]
                  rw [List.getElem?_eq_getElem hjl] at hx
                  injection hx with hx
                  rw [hx]⟩⟩
              have e2 := fun nq => run_str (w1.drewN nq) (some ⟨b, off, none⟩) (k + 1) c _ (hrl.drewN nq)
              obtain ⟨N, hN⟩ : ∃ N, N = (cntN u).length := ⟨_, rfl⟩
              obtain ⟨s1, hs1⟩ : ∃ s1, s1 = strN (cntN u) := ⟨_, rfl⟩
              obtain ⟨s2, hs2⟩ : ∃ s2, s2 = strN l := ⟨_, rfl⟩
              rw [← hs1, ← hs2] at HEQ
              rw [← hs1, ← hN] at e1
              rw [← hs2] at e2
              rw [← hN]
              clear hN hs1 hs2 h1 h2 h3 h4 h5 hh1 hrl c0
              have HCUT := Lib.hid (fun off' c' => HH1.out.cut (k + 1) (by omega) off' c')
              have HO1 := Lib.hid (show OnlyG w w1 g from Only.of_below H2.out)
              have q1 : IntKind.i64.wrap ((k : Int) + 1) = (k : Int) + 1 := IntWalk.i64_in _ (by omega)
              have q2 : (0 : Int) ≤ (k : Int) + 1 := by omega
              have q3 : ((k : Int) + 1).toNat = k + 1 := by omega
              have q4 : (⟨b, off, none⟩ : Addr).add (k + 1) = ⟨b, off + (k + 1), none⟩ := addr_plus b off (k + 1)
              have Q4 := Lib.hid q4
              clear q4
              by_cases he : cntN u = l
              · have hse : (s1.toList == s2.toList) = true := by have := HEQ.out; rw [decide_eq_true he] at this; exact this
                have hR := HAT2.out
                rw [if_pos he] at hR
                have HR := Lib.hid hR
                clear he hR
                go_wp2_with fail
                go_quiet (fail)
                clear q1 q2 q3 e1 e2
                have q4 := Q4.out
                go_wp2_with fail
                case inl =>
                  have H1 := Lib.hid (HCUT.out off 0 (.inr (by omega)) (by omega))
                  go_ret
                  rw [HR.out]
                  exact ⟨rfl, ⟨_, _, _, H1.out.stays rfl (fun _ _ => rfl)⟩, (HO1.out.trans (Only.of_below (below_drewN' (Below.refl _ _) nq))).trans (Only.set _ _ _ _)⟩
                case inr =>
                  have H1 := Lib.hid (HCUT.out (off + (k + 1)) (c - (k + 1)) (.inl rfl) (by omega))
                  go_ret
                  rw [HR.out]
                  exact ⟨rfl, ⟨_, _, _, H1.out.stays rfl (fun _ _ => rfl)⟩, (HO1.out.trans (Only.of_below (below_drewN' (Below.refl _ _) nq))).trans (Only.set _ _ _ _)⟩
              · have hse : (s1.toList == s2.toList) = false := by have := HEQ.out; rw [decide_eq_false he] at this; exact this
                have hR := HAT2.out
                rw [if_neg he] at hR
                have HR := Lib.hid hR
                clear he hR
                go_wp2_with fail
                go_quiet (fail)
                clear q1 q2 q3 e1 e2
                have HF2 := Lib.hid (HF.out (w1.drewN nq) ⟨_, _, _, HH1.out.stays rfl (fun _ _ => rfl)⟩)
                go_wp2_with fail
                refine Calls.mono HF2.out ?_
                rintro e w3 ⟨rfl, h1, h2⟩
                have H1 := Lib.hid h1
                have H3 := Lib.hid h2
                clear h1 h2
                go_wp2_with fail
                go_ret
                rw [HR.out]
                exact ⟨rfl, H1.out, (HO1.out.trans (Only.of_below (below_drewN' (Below.refl _ _) nq))).trans H3.out⟩
      · have HNO2 := Lib.hid (HNO.out k HALL.out (.inr (by omega)))
        have HF2 := Lib.hid (HF.out w ⟨_, _, _, HH.out⟩)
        go_wp2_with fail
        refine Calls.mono HF2.out ?_
        rintro e w1 ⟨rfl, h1, h2⟩
        have H1 := Lib.hid h1
        have H2 := Lib.hid h2
        clear h1 h2
        go_wp2_with fail
        go_ret
        rw [HNO2.out]
        exact ⟨rfl, H1.out, H2.out⟩
    · have HNO2 := Lib.hid (HNO.out k HALL.out (.inl (by rw [HL.out]; omega)))
      have HF2 := Lib.hid (HF.out w ⟨_, _, _, HH.out⟩)
      go_wp2_with fail
      refine Calls.mono HF2.out ?_
      rintro e w1 ⟨rfl, h1, h2⟩
      have H1 := Lib.hid h1
      have H2 := Lib.hid h2
      clear h1 h2
      go_wp2_with fail
      go_ret
      rw [HNO2.out]
      exact ⟨rfl, H1.out, H2.out⟩
theorem rcount_nil : rcount [] = (0, [], true) := rfl
theorem mcount_any (B g : Nat) (bs : List Nat) (bad : Bool) (w : World) (h : Rfx w B g bs bad) :
    Calls Try.prog 87 #[.pointer (some ⟨g, 0, none⟩)] w fun e w' => e = .returned (.int .u64 (((rcount bs).1 : Nat) : Int)) ∧ Rfx w' B g (rcount bs).2.1 (rcount bs).2.2 ∧ OnlyG w w' g := by
  cases bad with
  | true =>
    obtain rfl := h.empty
    rw [rcount_nil]
    exact mcount_bad B g [] w h
  | false => exact mcount_good B g bs w h
end Go.Proofs.Ytmicheheibkmjaa

/- The contracts of the document's reader's Num and Bytes. -/
namespace Go.Proofs.Ytmicheheibkmjaa
set_option maxRecDepth 100000
open Go.RowKit

theorem Rdv.set {w : World} {A : Option Addr} {n size : Nat} {ys : List Value} (h : Rdv w A n size ys) (p : Addr) (u : Value) (hne : ∀ ad, A = some ad → ad.block ≠ p.block) : Rdv (w.setCell p u) A n size ys :=
  ⟨h.1, fun hn => by
    obtain ⟨b, off, e, hc⟩ := h.2 hn
    exact ⟨b, off, e, fun j v hj => (World.cell?_of_block (Deep.blk_setCell_other w p u b (hne _ e))).trans (hc j v hj)⟩⟩
set_option maxHeartbeats 400000 in
theorem mnum_any (B g : Nat) (bs : List Nat) (bad : Bool) (w : World) (h : Rfx w B g bs bad) :
    Calls Try.prog 63 #[.pointer (some ⟨g, 0, none⟩)] w fun e w' => e = .returned (.int .i64 (unfoldN (rcount bs).1)) ∧ Rfx w' B g (rcount bs).2.1 (rcount bs).2.2 ∧ OnlyG w w' g := by
  have HC := Lib.hid (mcount_any B g bs bad w h)
  have hlt := rcount_lt bs h.small
  obtain ⟨n, hn⟩ : ∃ n, n = (rcount bs).1 := ⟨_, rfl⟩
  rw [← hn] at HC hlt ⊢
  have hu : unfoldN n = if n % 2 = 1 then -((n / 2 : Nat) : Int) - 1 else ((n / 2 : Nat) : Int) := rfl
  obtain ⟨U, hU⟩ : ∃ U, U = unfoldN n := ⟨_, rfl⟩
  rw [← hU] at hu ⊢
  clear h hn hU
  by_cases h1 : n % 2 = 1
  · rw [if_pos h1] at hu
    have HU := Lib.hid hu
    have h1' : (n : Int) % 2 = 1 := by omega
    clear hu h1
    go_enter Try.func63, Try.ntmps63
    go_wp2_with fail
    refine Calls.mono HC.out ?_
    rintro e w1 ⟨rfl, h2, h3⟩
    have H2 := Lib.hid h2
    have H3 := Lib.hid h3
    clear h2 h3
    go_wp2_with fail
    go_ret
    exact ⟨by rw [HU.out]; go_num, H2.out, H3.out⟩
  · rw [if_neg h1] at hu
    have HU := Lib.hid hu
    have h1' : (n : Int) % 2 = 0 := by omega
    clear hu h1
    go_enter Try.func63, Try.ntmps63
    go_wp2_with fail
    refine Calls.mono HC.out ?_
    rintro e w1 ⟨rfl, h2, h3⟩
    have H2 := Lib.hid h2
    have H3 := Lib.hid h3
    clear h2 h3
    go_wp2_with fail
    go_ret
    exact ⟨by rw [HU.out]; go_num, H2.out, H3.out⟩
end Go.Proofs.Ytmicheheibkmjaa

/- The contract of num.Over: bytes are written over. -/
namespace Go.Proofs.Ytmicheheibkmjaa
set_option maxRecDepth 100000
open Go.RowKit

theorem xor255 (b : Nat) (hb : b < 256) : bits BinOp.xor IntKind.u8 (b : Int) 255 = ((255 - b : Nat) : Int) := by
  have key : ∀ y : Fin 256, bits BinOp.xor IntKind.u8 (y.val : Int) 255 = ((255 - y.val : Nat) : Int) := by decide +kernel
  exact key ⟨b, hb⟩
/-- A block of bytes, none of them frozen, of which n from off on are known as bytes. -/
def Bt (w : World) (q off n : Nat) : Prop := ∃ cs, w.heap[q]? = some (.cells cs 5 (0, 0)) ∧ ∀ j, j < n → ∃ x : Nat, x < 256 ∧ cs[off + j]? = some (.int .u8 (x : Int))
theorem Bt.of {w : World} {A : Option Addr} {q off n : Nat} {bs : List Nat} (h : Rdv w A n 1 (valsB bs)) (hs : ∀ x ∈ bs, x < 256) (hA : A = some ⟨q, off, none⟩) {cs : Array Value} (hb : w.heap[q]? = some (.cells cs 5 (0, 0))) : Bt w q off n := by
  refine ⟨cs, hb, fun j hj => ?_⟩
  obtain ⟨b, o, e, hc⟩ := h.2 (by omega)
  rw [hA] at e
  injection e with e
  injection e with e1 e2
  subst e1 e2
  have hl : bs.length = n := by have := h.1; rw [valsB_length] at this; omega
  have hjl : j < bs.length := by omega
  refine ⟨bs[j], hs _ (List.getElem_mem hjl), ?_⟩
  have := hc j _ (show (valsB bs)[j]? = some (.int .u8 ((bs[j] : Nat) : Int)) by rw [valsB_get, List.getElem?_eq_getElem hjl]; rfl)
  rw [cell_of_row w q _ cs 5 (0, 0) hb] at this
  exact this

end Go.Proofs.Ytmicheheibkmjaa

/- The contract of the law's read: both readers answer alike, and go on alike. -/
namespace Go.Proofs.Ytmicheheibkmjaa
set_option maxRecDepth 100000
open Go.RowKit

/-- What is left behind a read of a kind, and whether it is bad. -/
def stepR (k : Int) (bs : List Nat) (bad : Bool) : List Nat × Bool :=
  if k = 1 then ((rcount bs).2.1, (rcount bs).2.2) else if k = 2 then (flagRest bs, flagBad bs bad) else if k = 3 then (bytesRest bs, bytesBad bs) else if k = 4 then (bytesRest bs, bytesBad bs)
  else if k = 5 then (bs.drop 1, bad || decide (bs.length = 0)) else ((rcount bs).2.1, (rcount bs).2.2)
/-- Nothing but two blocks is changed, and what is new. -/
structure TwoB (w w' : World) (V : Value) (g : Nat) : Prop where
  os : w'.os = w.os
  tape : w'.tape = w.tape
  output : w'.output = w.output
  size : w.heap.size ≤ w'.heap.size
  block : ∀ k, k < w.heap.size → V ≠ .pointer (some ⟨k, 0, none⟩) → k ≠ g → w'.heap[k]? = w.heap[k]?
theorem OnlyG.at' {w w' : World} {g : Nat} (h : OnlyG w w' g) {k : Nat} (hk : k < w.heap.size) (hne : k ≠ g) : w'.heap[k]? = w.heap[k]? := OnlyG.at h hk hne
theorem TwoB.of {w w1 w2 : World} {V : Value} {g : Nat} (h : Only w w1 V) (k : OnlyG w1 w2 g) : TwoB w w2 V g :=
  ⟨k.os.trans h.os, k.tape.trans h.tape, k.output.trans h.output, Nat.le_trans h.size k.size, fun j hj h1 h2 => (OnlyG.at k (Nat.lt_of_lt_of_le hj h.size) h2).trans (h.block j hj h1)⟩
theorem TwoB.more {w w1 w2 : World} {V : Value} {g q : Nat} (h : TwoB w w1 V g) (k : OnlyG w1 w2 q) (hq : w.heap.size ≤ q) : TwoB w w2 V g :=
  ⟨k.os.trans h.os, k.tape.trans h.tape, k.output.trans h.output, Nat.le_trans h.size k.size, fun j hj h1 h2 => (OnlyG.at k (Nat.lt_of_lt_of_le hj h.size) (by omega)).trans (h.block j hj h1 h2)⟩
theorem TwoB.refl (w : World) (V : Value) (g : Nat) : TwoB w w V g := ⟨rfl, rfl, rfl, Nat.le_refl _, fun _ _ _ _ => rfl⟩
theorem TwoB.trans {w w1 w2 : World} {V : Value} {g : Nat} (h : TwoB w w1 V g) (k : TwoB w1 w2 V g) : TwoB w w2 V g :=
  ⟨k.os.trans h.os, k.tape.trans h.tape, k.output.trans h.output, Nat.le_trans h.size k.size, fun j hj h1 h2 => (k.block j (Nat.lt_of_lt_of_le hj h.size) h1 h2).trans (h.block j hj h1 h2)⟩
/-- The two readers, apart from one another. -/
structure Both2 (w : World) (S : Nat → Prop) (B g : Nat) (V : Value) (bs : List Nat) (bad : Bool) : Prop where
  r : Rdr w S V bs bad
  m : Rfx w B g bs bad
theorem Rfx.lt {w : World} {B g : Nat} {bs : List Nat} {bad : Bool} (h : Rfx w B g bs bad) : g < w.heap.size := by
  obtain ⟨_, _, _, h⟩ := h
  exact h.lt
theorem Rfx.low {w : World} {B g : Nat} {bs : List Nat} {bad : Bool} (h : Rfx w B g bs bad) : B ≤ g := by
  obtain ⟨_, _, _, h⟩ := h
  exact h.low
/-- The document's reader stands behind the program's call. -/
theorem Rfx.beside {w w1 : World} {S : Nat → Prop} {B g : Nat} {V : Value} {bs cs : List Nat} {bad bad' : Bool} (h : Rfx w B g bs bad) (hr : Rdr w S V cs bad') (hS : ∀ j, S j → B ≤ j ∧ j ≠ g ∧ j < w.heap.size) (k : Only w w1 V) : Rfx w1 B g bs bad :=
  h.stays (k.block g h.lt (fun he => (hS g (hr.low' g he)).2.1 rfl)) (fun j hj => k.block j (by have := h.lt; have := h.low; omega) (fun he => by have := (hS j (hr.low' j he)).1; omega))
/-- The program's reader stands behind the document's call. -/
theorem Rdr.beside {w w1 : World} {S : Nat → Prop} {g : Nat} {V : Value} {bs : List Nat} {bad : Bool} (h : Rdr w S V bs bad) (hS : ∀ j, S j → j ≠ g) (k : OnlyG w w1 g) : Rdr w1 S V bs bad :=
  h.stays k.size (fun j hj hs => OnlyG.at k hj (hS j hs))
theorem bytesOut_small {bs : List Nat} (h : ∀ x ∈ bs, x < 256) : ∀ x ∈ bytesOut bs, x < 256 := by
  intro x hx
  have hsub : ∀ y ∈ (rcount bs).2.1, y ∈ bs := by
    intro y hy
    rcases rcnt_ways 10 0 0 bs with h1 | ⟨n, rest, h1⟩
    · rw [show rcount bs = rcnt 10 0 0 bs from rfl, h1] at hy; cases hy
    · have := (rcount_yes h (show rcount bs = (n, rest, false) from h1)).1
      rw [show rcount bs = rcnt 10 0 0 bs from rfl, h1] at hy
      rw [this]
      exact List.mem_append_right _ hy
  unfold bytesOut outT at hx
  split at hx
  · cases hx
  · exact h x (hsub x (List.mem_of_mem_take hx))

end Go.Proofs.Ytmicheheibkmjaa

/- The contracts of num.Num and num.Is at ErrForm. -/
namespace Go.Proofs.Ytmicheheibkmjaa
set_option maxRecDepth 100000
open Go.RowKit

def eForm : Value := .iface 51 (.int .i64 2)
theorem as51 (v : Value) (w : World) : (Instr.typeAssert (.iface 51 v) 43 51 true).run Try.prog w = .ok (.tuple #[v, .bool true]) w := by kernel_rfl
set_option maxHeartbeats 1000000 in
theorem num_form (w : World) : Calls Try.prog 65 #[eForm] w fun e w' => e = .returned (.int .i64 2) ∧ w = w' := by
  have h1 := as51
  unfold eForm
  go_enter Try.func65, Try.ntmps65
  go_wp2
  refine wp_loop_rounds 1 ?_
  rw [rounds_succ]
  go_wp2
  go_ret
  exact ⟨rfl, rfl⟩
set_option maxHeartbeats 400000 in
theorem is_form (w : World) : Calls Try.prog 31 #[eForm, .int .i64 2] w fun e w' => e = .returned (.bool true) ∧ w = w' := by
  have C := fun w => num_form w
  unfold eForm at C ⊢
  have HC := Lib.hid C
  clear C
  go_enter Try.func31, Try.ntmps31
  go_wp2_with fail
  refine Calls.mono (HC.out _) ?_
  rintro e w' ⟨rfl, rfl⟩
  go_wp2_with fail
  go_ret
  exact ⟨rfl, rfl⟩
theorem endV_bad (bs : List Nat) : endV bs true = eForm := rfl
theorem stepR_bad (k : Int) : stepR k [] true = ([], true) := by
  unfold stepR
  split
  · rfl
  split
  · rfl
  split
  · rfl
  split
  · rfl
  split
  · rfl
  · rfl
end Go.Proofs.Ytmicheheibkmjaa

/- The contracts of num.Copy and num.Kept: a copy with two marks behind it, and the look at them. -/
namespace Go.Proofs.Ytmicheheibkmjaa
set_option maxRecDepth 100000
open Go.RowKit

/-- A copy: its bytes, and two marks in its spare room, in a block of its own. -/
structure Mk (w : World) (g n cap : Nat) (xs : List Nat) : Prop where
  len : xs.length = n
  cap : n + 2 ≤ cap
  block : ∃ cs, w.heap[g]? = some (.cells cs 5 (0, 0)) ∧ ∀ j, j < n + 2 → cs[j]? = some (.int .u8 (((xs ++ [165, 90]).getD j 0 : Nat) : Int))
theorem Mk.cells {w : World} {g n cap : Nat} {xs : List Nat} (h : Mk w g n cap xs) (j : Nat) (hj : j < n + 2) : w.cell? ⟨g, j, none⟩ = some (.int .u8 (((xs ++ [165, 90]).getD j 0 : Nat) : Int)) := by
  obtain ⟨cs, hb, hc⟩ := h.block
  rw [cell_of_row w g j cs 5 (0, 0) hb]
  exact hc j hj
theorem Mk.row {w : World} {g n cap : Nat} {xs : List Nat} (h : Mk w g n cap xs) : Rdv w (some ⟨g, 0, none⟩) n 1 (valsB xs) := by
  have hl := h.len
  refine ⟨by rw [valsB_length]; omega, fun _ => ⟨g, 0, rfl, fun j u hj => ?_⟩⟩
  rw [valsB_get] at hj
  cases hx : xs[j]? with
  | none => rw [hx] at hj; cases hj
  | some x =>
    rw [hx] at hj
    cases hj
    have hjl := (List.getElem?_eq_some_iff.1 hx).1
    rw [Nat.zero_add, h.cells j (by omega)]
    simp [List.getD_eq_getElem?_getD, List.getElem?_append_left hjl, hx]
theorem Mk.lt {w : World} {g n cap : Nat} {xs : List Nat} (h : Mk w g n cap xs) : g < w.heap.size := by
  obtain ⟨cs, hb, _⟩ := h.block
  exact (Array.getElem?_eq_some_iff.1 hb).1
theorem Mk.at {w w' : World} {g n cap : Nat} {xs : List Nat} (h : Mk w g n cap xs) (hb : w'.heap[g]? = w.heap[g]?) : Mk w' g n cap xs := by
  obtain ⟨cs, h1, h2⟩ := h.block
  exact ⟨h.len, h.cap, cs, hb.trans h1, h2⟩
theorem Mk.bt {w : World} {g n cap : Nat} {xs : List Nat} (h : Mk w g n cap xs) (hs : ∀ x ∈ xs, x < 256) : Bt w g 0 n := by
  obtain ⟨cs, h1, _⟩ := h.block
  exact Bt.of h.row hs rfl h1
theorem rdvB_two (w : World) : Rdv (w.alloc (.cells #[Value.int .u8 165, Value.int .u8 90] 5)) (some ⟨w.heap.size, 0, none⟩) 2 1 (valsB [165, 90]) := by
  refine ⟨rfl, fun _ => ⟨_, _, rfl, fun j u hj => ?_⟩⟩
  rw [cell_of_row _ _ _ _ 5 (0, 0) (heap_alloc_new w (.cells #[.int .u8 165, .int .u8 90] 5 (0, 0)))]
  rw [Nat.zero_add]
  exact (show (#[Value.int .u8 165, .int .u8 90])[j]? = (valsB [165, 90])[j]? by simp [valsB]).trans hj
theorem mk_of_own {w : World} {B n : Nat} {v : Value} {xs : List Nat} (h : OwnB w B v ([] ++ xs ++ [165, 90])) (hl : xs.length = n) :
    ∃ g cap, v = .slice (some ⟨g, 0, none⟩) (n + 2) cap ∧ Mk w g n cap xs ∧ B ≤ g ∧ cap ≤ 9223372036854775807 := by
  have hlen : ([] ++ xs ++ [165, 90]).length = n + 2 := by simp [hl]
  rcases h.2 with ⟨rfl, h0⟩ | ⟨g, cap, cur, rfl, hB, hg, h1, h2, h3, h4⟩
  · omega
  · rw [hlen] at h1
    unfold maxLen at h2
    refine ⟨g, cap, by rw [hlen], ⟨hl, h1, cur, hg, fun j hj => ?_⟩, hB, h2⟩
    have hc := h.cells (g := g) rfl j (.int .u8 (((xs ++ [165, 90]).getD j 0 : Nat) : Int)) (by
      rw [valsB_get, List.nil_append, List.getElem?_eq_getElem (show j < (xs ++ [165, 90]).length by simp [hl]; omega)]
      simp [List.getD_eq_getElem?_getD, List.getElem?_eq_getElem (show j < (xs ++ [165, 90]).length by simp [hl]; omega)])
    rw [addr_plus, Nat.zero_add, cell_of_row w g j cur 5 (0, 0) hg] at hc
    exact hc

set_option maxHeartbeats 1000000 in
theorem copy_any (A : Option Addr) (n c : Nat) (xs : List Nat) (w : World) (hb : Rdv w A n 1 (valsB xs)) (hnil : A = none → c = 0) (hn : n ≤ 8796093000000) :
    Calls Try.prog 28 #[.slice A n c] w fun e w' => ∃ g cap, e = .returned (.slice (some ⟨g, 0, none⟩) n cap) ∧ Mk w' g n cap xs ∧ w.heap.size ≤ g ∧ Below w.heap.size w w' := by
  obtain ⟨i0, hi, hz0, hz1, hz2⟩ := info_parts (show (Try.prog.info? 5).map (fun i => (i.zero, i.size, i.bytes)) = some (some (.int .u8 0), 1, 1) by kernel_rfl)
  have hl : xs.length = n := by have := hb.1; rw [valsB_length] at this; omega
  have HL := Lib.hid hl
  have HR := Lib.hid hb
  clear hl hb
  go_enter Try.func28, Try.ntmps28
  go_wp2_with (first
    | (at_make; refine wpList_make_own w rfl _ _ 40 rfl w.heap.size 5 i0 (.int .u8 0) 1 Try.underlying40 hi hz0 hz1 .i64 .i64 ((n : Int) + 2) (n + 2) rfl rfl (by omega) (by rw [hz2]; omega) (by unfold maxLen; omega) (Nat.le_refl _) ?_; intro w1 hown1 hg1; have hb1 : Below w.heap.size w w1 := (Below.refl _ w).grown hg1 (Nat.le_refl _) (fun k hk => by cases hk))
    | (at_builtin; refine wpList_appB rfl (.tmp 6) (.tmp 7) rfl w.heap.size _ [] rfl hown1 A n c xs rfl (HR.out.ext (stays_b hb1)) hnil (by show 0 + n ≤ _; omega) hb1.size ?_; intro v2 w2 hown2 hb2 _ _; have hbw2 := hb1.trans hb2; have hbw3 := hbw2.alloc hbw2.size (.cells #[Value.int .u8 165, Value.int .u8 90] 5))
    | (at_builtin; refine wpList_appB rfl (.tmp 8) (.tmp 9) rfl w.heap.size _ ([] ++ xs) rfl (World.ownsRow.alloc hown2 _) _ 2 2 [165, 90] rfl (rdvB_two w2) (fun h => by cases h) (by rw [List.nil_append, HL.out]; omega) (by have := hbw2.size; rw [World.size_alloc]; omega) ?_; intro v4 w4 hown4 hb4 _ _; obtain ⟨g, cap, rfl, hmk, hBg, hcap2⟩ := mk_of_own hown4 HL.out; have hcap := hmk.cap))
  go_ret
  exact ⟨g, cap, rfl, hmk, hBg, hbw3.trans hb4⟩
set_option maxHeartbeats 400000 in
theorem kept_any (g n cap : Nat) (xs : List Nat) (A : Option Addr) (c : Nat) (w : World) (hm : Mk w g n cap xs) (hb : Rdv w A n 1 (valsB xs)) (hn : n ≤ 8796093000000) :
    Calls Try.prog 30 #[.slice (some ⟨g, 0, none⟩) n cap, .slice A n c] w fun e w' => e = .returned (.bool true) ∧ w = w' := by
  have h1 := run_str w (some ⟨g, 0, none⟩) n cap xs hm.row
  have h2 := run_str w A n c xs hb
  obtain ⟨s, hs⟩ : ∃ s, s = strN xs := ⟨_, rfl⟩
  rw [← hs] at h1 h2
  have c1 := hm.cells n (by omega)
  have c2 := hm.cells (n + 1) (by omega)
  have hl := hm.len
  have hcap := hm.cap
  have e1 : (xs ++ [165, 90]).getD n 0 = 165 := by simp [List.getD_eq_getElem?_getD, ← hl]
  have e2 : (xs ++ [165, 90]).getD (n + 1) 0 = 90 := by simp [List.getD_eq_getElem?_getD, ← hl]
  rw [e1] at c1
  rw [e2] at c2
  have c1' : w.cell? ⟨g, n, none⟩ = some (.int .u8 165) := c1
  have c2' : w.cell? ⟨g, n + 1, none⟩ = some (.int .u8 90) := c2
  clear c1 c2 e1 e2 hl hs hb hm
  go_enter Try.func30, Try.ntmps30
  go_wp2
  go_ret
  exact ⟨rfl, rfl⟩
end Go.Proofs.Ytmicheheibkmjaa
