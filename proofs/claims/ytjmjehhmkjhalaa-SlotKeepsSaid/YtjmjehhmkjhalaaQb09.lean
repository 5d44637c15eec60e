/- WRfC, WRfN, WOver, WCopy: put together. -/
import Derived.Test.YtjmjehhmkjhalaaQb07
import Derived.Test.YtjmjehhmkjhalaaQb08
import Derived.BigQuiet
import Derived.Deep.QuietTactic
import Derived.Laws.MakeOwn
/- The contract of the document's reader's Count. -/
namespace Go.Proofs.Ytjmjehhmkjhalaa
set_option maxRecDepth 100000
open Go.RowKit

theorem Rdv.drewN {w : World} {A : Option Addr} {n size : Nat} {ys : List Value} (h : Rdv w A n size ys) (k : Nat) : Rdv (w.drewN k) A n size ys := h.ext (fun _ _ => rfl)
theorem below_drewN' {B : Nat} {a w : World} (h : Below B a w) (n : Nat) : Below B a (w.drewN n) := ⟨h.os, h.tape, h.output, h.size, h.block⟩
theorem Rf.below {w w' : World} {B g : Nat} {A : Option Addr} {n c : Nat} {bs : List Nat} {bad : Bool} (h : Rf w B g A n c bs bad) (k : Below w.heap.size w w') : Rf w' B g A n c bs bad :=
  h.stays (k.block g h.lt) (fun j hj => k.block j (by have := h.lt; have := h.low; omega))
set_option maxHeartbeats 400000 in
theorem mcount_bad (B g : Nat) (bs : List Nat) (w : World) (h : Rfx w B g bs true) :
    Calls Try.prog 90 #[.pointer (some ⟨g, 0, none⟩)] w fun e w' => e = .returned (.int .u64 0) ∧ Rfx w' B g [] true ∧ OnlyG w w' g := by
  have HF := Lib.hid (mfail_any B g bs true w h)
  obtain rfl := h.empty
  obtain ⟨A, n, c, h⟩ := h
  obtain rfl : n = 0 := by simpa using h.blen.symm
  have c0 := h.c0
  have c1 := h.c1
  clear h
  go_enter Try.func90, Try.ntmps90
  go_wp2_with fail
  refine wp_loop_rounds 1 ?_
  rw [rounds_succ]
  go_wp2_with fail
  refine Calls.mono HF.out ?_
  rintro e w1 ⟨rfl, h1, h2⟩
  have H1 := Lib.hid h1
  have H2 := Lib.hid h2
  clear h1 h2
  go_wp2_with fail
  go_ret
  exact ⟨rfl, H1.out, H2.out⟩
set_option maxHeartbeats 2000000 in
theorem mcount_good (B g : Nat) (bs : List Nat) (w : World) (h : Rfx w B g bs false) :
    Calls Try.prog 90 #[.pointer (some ⟨g, 0, none⟩)] w fun e w' => e = .returned (.int .u64 (((rcount bs).1 : Nat) : Int)) ∧ Rfx w' B g (rcount bs).2.1 (rcount bs).2.2 ∧ OnlyG w w' g := by
  have HF := Lib.hid (fun w (h : Rfx w B g bs false) => mfail_any B g bs false w h)
  have hsm := h.small
  obtain ⟨A, n, c, h⟩ := h
  have hl := h.blen
  have hlen := h.len
  have c0 := h.c0
  have c1 := h.c1
  have HH := Lib.hid h
  have HC := Lib.hid (fun hn => h.cellAt hn)
  have HL := Lib.hid hl
  have HNO := Lib.hid (fun k hk hend => rcount_no (k := k) hsm hk hend)
  have HAT := Lib.hid (fun k hlt hk hq u hu => rcount_at (k := k) hsm hlt hk hq u hu)
  have HSM := Lib.hid hsm
  obtain ⟨R, hR⟩ : ∃ R, R = rcount bs := ⟨_, rfl⟩
  rw [← hR] at HNO HAT ⊢
  clear h hl hR hsm
  go_enter Try.func90, Try.ntmps90
  go_wp2_with fail
  go_loop [3] (fun i => ∃ k : Nat, i = .int .i64 (k : Int) ∧ k ≤ n ∧ k ≤ 10 ∧ ∀ j (h : j < bs.length), j < k → 128 ≤ bs[j]) (fun i => 10 - (intOf i).toNat)
  case atStart => exact ⟨0, rfl, by omega, by omega, fun j _ h => absurd h (by omega)⟩
  case round =>
    obtain ⟨k, rfl, hkn, hk10, hall⟩ := hrel
    have HALL := Lib.hid hall
    clear hall
    by_cases hlt : k < n
    · by_cases h10 : k < 10
      · obtain ⟨b, off, rfl, hnc, hcell⟩ := HC.out (by omega)
        have hk0 := hcell k (by rw [HL.out]; exact hlt)
        have HCELL := Lib.hid hcell
        obtain ⟨x, hx⟩ : ∃ x, x = bs[k]'(by rw [HL.out]; exact hlt) := ⟨_, rfl⟩
        rw [← hx] at hk0
        have HX := Lib.hid hx
        clear hx hcell
        by_cases hge : 128 ≤ x
        · go_wp2_with fail
          go_round
          case rel =>
            refine ⟨k + 1, by go_num, by omega, by omega, fun j hj hjk => ?_⟩
            rcases Nat.lt_or_ge j k with h1 | h1
            · exact HALL.out j hj h1
            · obtain rfl : j = k := by omega
              rw [← HX.out]; exact hge
          case measure => simp [intOf]; omega
        · go_wp2_with fail
          clear hk0
          obtain ⟨l, hlt2⟩ : ∃ l, l = bs.take (k + 1) := ⟨_, rfl⟩
          have hll : l.length = k + 1 := by rw [hlt2, List.length_take, HL.out]; omega
          have HLT := Lib.hid hlt2
          have HLL := Lib.hid hll
          have hcl : ∀ j (h : j < l.length), w.cell? ⟨b, off + j, none⟩ = some (.int .u8 ((l[j] : Nat) : Int)) ∧ l[j] < 256 := fun j h => by
            have hj : j < bs.length := by rw [HL.out]; omega
            have e : l[j] = bs[j] := by simp [hlt2]
            rw [e]
            exact ⟨HCELL.out j hj, HSM.out _ (List.getElem_mem hj)⟩
          have HCL := Lib.hid hcl
          clear hlt2 hll hcl
          go_loop [4, 5] (fun u i => ∃ j : Nat, i = .int .i64 ((j : Int) - 1) ∧ j ≤ k + 1 ∧ u = .int .u64 ((valH (l.drop j) % 18446744073709551616 : Nat) : Int)) (fun _ i => (intOf i + 1).toNat)
          case atStart => exact ⟨k + 1, by go_num, by omega, by rw [List.drop_eq_nil_of_le (by rw [HLL.out]; omega)]; rfl⟩
          case round =>
            obtain ⟨j, rfl, hj, rfl⟩ := hrel
            by_cases hj0 : 0 < j
            · obtain ⟨i, rfl⟩ : ∃ i, j = i + 1 := ⟨j - 1, by omega⟩
              have hil : i < l.length := by rw [HLL.out]; omega
              obtain ⟨hci, hb256⟩ := HCL.out i hil
              obtain ⟨y, hy⟩ : ∃ y, y = l[i] := ⟨_, rfl⟩
              have hst := valH_step l i hil
              rw [← hy] at hci hb256 hst
              obtain ⟨v, hv⟩ : ∃ v, v = valH (l.drop (i + 1)) % 18446744073709551616 := ⟨_, rfl⟩
              have hst2 : valH (l.drop i) % 18446744073709551616 = (128 * v + y % 128) % 18446744073709551616 := by rw [hst, hv]; omega
              rw [← hv]
              have hv64 : v < 18446744073709551616 := by omega
              have HST := Lib.hid hst2
              clear hst hst2 hy hv
              go_wp2_with fail
              refine ⟨⟨i, rfl, by omega, ?_⟩, by simp [intOf]⟩
              rw [HST.out, IntKind.wrap_u64, IntKind.wrap_u64]
              congr 1
              omega
            · obtain rfl : j = 0 := by omega
              rw [List.drop_zero]
              have hat := HAT.out k (by rw [HL.out]; exact hlt) HALL.out (by rw [← HX.out]; omega) _ rfl
              rw [← HLT.out] at hat
              obtain ⟨u, hu⟩ : ∃ u, u = valH l % 18446744073709551616 := ⟨_, rfl⟩
              rw [← hu] at hat ⊢
              have hu64 : u < 18446744073709551616 := by omega
              have HAT2 := Lib.hid hat
              have HRC := Lib.hid (refCount_any u hu64 w)
              have hls : ∀ x ∈ l, x < 256 := fun x hx => HSM.out x (by rw [HLT.out] at hx; exact List.mem_of_mem_take hx)
              have HEQ := Lib.hid (strN_beq (cntN u) l (cntN_small_all u) hls)
              clear hu hat hls
              go_wp2_with fail
              refine Calls.mono HRC.out ?_
              rintro e w1 ⟨v, rfl, h1, h2⟩
              obtain ⟨A1, k1, rfl, h3, h4, h5⟩ := h1.rdv
              have H2 := Lib.hid h2
              have hh1 := HH.out.below h2
              have HH1 := Lib.hid hh1
              have c0' := hh1.c0
              have f0' := hh1.f 0
              have e1 := fun nq => run_str (w1.drewN nq) A1 _ k1 _ (h3.drewN nq)
              have hrl : Rdv w1 (some ⟨b, off, none⟩) (k + 1) 1 (valsB l) := ⟨by rw [valsB_length, HLL.out]; omega, fun _ => ⟨b, off, rfl, fun j v hj => by
                rw [valsB_get] at hj
                cases hx : l[j]? with
                | none => rw [hx] at hj; cases hj
                | some z =>
                  rw [hx] at hj
                  cases hj
                  have hjl := (List.getElem?_eq_some_iff.1 hx).1
                  rw [stays_b h2 _ (World.block_lt_of_cell? _ _ (HCL.out j hjl).1), (HCL.out j hjl).1]
                  rw [List.getElem?_eq_getElem hjl] at hx
                  injection hx with hx
                  rw [hx]⟩⟩
              have e2 := fun nq => run_str (w1.drewN nq) (some ⟨b, off, none⟩) (k + 1) c _ (hrl.drewN nq)
              obtain ⟨N, hN⟩ : ∃ N, N = (cntN u).length := ⟨_, rfl⟩
              obtain ⟨s1, hs1⟩ : ∃ s1, s1 = strN (cntN u) := ⟨_, rfl⟩
              obtain ⟨s2, hs2⟩ : ∃ s2, s2 = strN l := ⟨_, rfl⟩
              rw [← hs1, ← hs2] at HEQ
              rw [← hs1, ← hN] at e1
              rw [← hs2] at e2
              rw [← hN]
              clear hN hs1 hs2 h1 h2 h3 h4 h5 hh1 hrl c0
              have HCUT := Lib.hid (fun off' c' => HH1.out.cut (k + 1) (by omega) off' c')
              have HO1 := Lib.hid (show OnlyG w w1 g from Only.of_below H2.out)
              have q1 : IntKind.i64.wrap ((k : Int) + 1) = (k : Int) + 1 := IntWalk.i64_in _ (by omega)
              have q2 : (0 : Int) ≤ (k : Int) + 1 := by omega
              have q3 : ((k : Int) + 1).toNat = k + 1 := by omega
              have q4 : (⟨b, off, none⟩ : Addr).add (k + 1) = ⟨b, off + (k + 1), none⟩ := addr_plus b off (k + 1)
              have Q4 := Lib.hid q4
              clear q4
              by_cases he : cntN u = l
              · have hse : (s1.toList == s2.toList) = true := by have := HEQ.out; rw [decide_eq_true he] at this; exact this
                have hR := HAT2.out
                rw [if_pos he] at hR
                have HR := Lib.hid hR
                clear he hR
                go_wp2_with fail
                go_quiet (fail)
                clear q1 q2 q3 e1 e2
                have q4 := Q4.out
                go_wp2_with fail
                case inl =>
                  have H1 := Lib.hid (HCUT.out off 0 (.inr (by omega)) (by omega))
                  go_ret
                  rw [HR.out]
                  exact ⟨rfl, ⟨_, _, _, H1.out.stays rfl (fun _ _ => rfl)⟩, (HO1.out.trans (Only.of_below (below_drewN' (Below.refl _ _) nq))).trans (Only.set _ _ _ _)⟩
                case inr =>
                  have H1 := Lib.hid (HCUT.out (off + (k + 1)) (c - (k + 1)) (.inl rfl) (by omega))
                  go_ret
                  rw [HR.out]
                  exact ⟨rfl, ⟨_, _, _, H1.out.stays rfl (fun _ _ => rfl)⟩, (HO1.out.trans (Only.of_below (below_drewN' (Below.refl _ _) nq))).trans (Only.set _ _ _ _)⟩
              · have hse : (s1.toList == s2.toList) = false := by have := HEQ.out; rw [decide_eq_false he] at this; exact this
                have hR := HAT2.out
                rw [if_neg he] at hR
                have HR := Lib.hid hR
                clear he hR
                go_wp2_with fail
                go_quiet (fail)
                clear q1 q2 q3 e1 e2
                have HF2 := Lib.hid (HF.out (w1.drewN nq) ⟨_, _, _, HH1.out.stays rfl (fun _ _ => rfl)⟩)
                go_wp2_with fail
                refine Calls.mono HF2.out ?_
                rintro e w3 ⟨rfl, h1, h2⟩
                have H1 := Lib.hid h1
                have H3 := Lib.hid h2
                clear h1 h2
                go_wp2_with fail
                go_ret
                rw [HR.out]
                exact ⟨rfl, H1.out, (HO1.out.trans (Only.of_below (below_drewN' (Below.refl _ _) nq))).trans H3.out⟩
      · have HNO2 := Lib.hid (HNO.out k HALL.out (.inr (by omega)))
        have HF2 := Lib.hid (HF.out w ⟨_, _, _, HH.out⟩)
        go_wp2_with fail
        refine Calls.mono HF2.out ?_
        rintro e w1 ⟨rfl, h1, h2⟩
        have H1 := Lib.hid h1
        have H2 := Lib.hid h2
        clear h1 h2
        go_wp2_with fail
        go_ret
        rw [HNO2.out]
        exact ⟨rfl, H1.out, H2.out⟩
    · have HNO2 := Lib.hid (HNO.out k HALL.out (.inl (by rw [HL.out]; omega)))
      have HF2 := Lib.hid (HF.out w ⟨_, _, _, HH.out⟩)
      go_wp2_with fail
      refine Calls.mono HF2.out ?_
      rintro e w1 ⟨rfl, h1, h2⟩
      have H1 := Lib.hid h1
      have H2 := Lib.hid h2
      clear h1 h2
      go_wp2_with fail
      go_ret
      rw [HNO2.out]
      exact ⟨rfl, H1.out, H2.out⟩
theorem rcount_nil : rcount [] = (0, [], true) := rfl
theorem mcount_any (B g : Nat) (bs : List Nat) (bad : Bool) (w : World) (h : Rfx w B g bs bad) :
    Calls Try.prog 90 #[.pointer (some ⟨g, 0, none⟩)] w fun e w' => e = .returned (.int .u64 (((rcount bs).1 : Nat) : Int)) ∧ Rfx w' B g (rcount bs).2.1 (rcount bs).2.2 ∧ OnlyG w w' g := by
  cases bad with
  | true =>
    obtain rfl := h.empty
    rw [rcount_nil]
    exact mcount_bad B g [] w h
  | false => exact mcount_good B g bs w h
end Go.Proofs.Ytjmjehhmkjhalaa

/- The contracts of the document's reader's Num and Bytes. -/
namespace Go.Proofs.Ytjmjehhmkjhalaa
set_option maxRecDepth 100000
open Go.RowKit

theorem Rdv.set {w : World} {A : Option Addr} {n size : Nat} {ys : List Value} (h : Rdv w A n size ys) (p : Addr) (u : Value) (hne : ∀ ad, A = some ad → ad.block ≠ p.block) : Rdv (w.setCell p u) A n size ys :=
  ⟨h.1, fun hn => by
    obtain ⟨b, off, e, hc⟩ := h.2 hn
    exact ⟨b, off, e, fun j v hj => (World.cell?_of_block (Deep.blk_setCell_other w p u b (hne _ e))).trans (hc j v hj)⟩⟩
end Go.Proofs.Ytjmjehhmkjhalaa

/- The contract of num.Over: bytes are written over. -/
namespace Go.Proofs.Ytjmjehhmkjhalaa
set_option maxRecDepth 100000
open Go.RowKit

/-- A block of bytes, none of them frozen, of which n from off on are known as bytes. -/
def Bt (w : World) (q off n : Nat) : Prop := ∃ cs, w.heap[q]? = some (.cells cs 5 (0, 0)) ∧ ∀ j, j < n → ∃ x : Nat, x < 256 ∧ cs[off + j]? = some (.int .u8 (x : Int))
theorem Bt.of {w : World} {A : Option Addr} {q off n : Nat} {bs : List Nat} (h : Rdv w A n 1 (valsB bs)) (hs : ∀ x ∈ bs, x < 256) (hA : A = some ⟨q, off, none⟩) {cs : Array Value} (hb : w.heap[q]? = some (.cells cs 5 (0, 0))) : Bt w q off n := by
  refine ⟨cs, hb, fun j hj => ?_⟩
  obtain ⟨b, o, e, hc⟩ := h.2 (by omega)
  rw [hA] at e
  injection e with e
  injection e with e1 e2
  subst e1 e2
  have hl : bs.length = n := by have := h.1; rw [valsB_length] at this; omega
  have hjl : j < bs.length := by omega
  refine ⟨bs[j], hs _ (List.getElem_mem hjl), ?_⟩
  have := hc j _ (show (valsB bs)[j]? = some (.int .u8 ((bs[j] : Nat) : Int)) by rw [valsB_get, List.getElem?_eq_getElem hjl]; rfl)
  rw [cell_of_row w q _ cs 5 (0, 0) hb] at this
  exact this

end Go.Proofs.Ytjmjehhmkjhalaa

/- The contracts of num.Copy and num.Kept: a copy with two marks behind it, and the look at them. -/
namespace Go.Proofs.Ytjmjehhmkjhalaa
set_option maxRecDepth 100000
open Go.RowKit

/-- A copy: its bytes, and two marks in its spare room, in a block of its own. -/
structure Mk (w : World) (g n cap : Nat) (xs : List Nat) : Prop where
  len : xs.length = n
  cap : n + 2 ≤ cap
  block : ∃ cs, w.heap[g]? = some (.cells cs 5 (0, 0)) ∧ ∀ j, j < n + 2 → cs[j]? = some (.int .u8 (((xs ++ [165, 90]).getD j 0 : Nat) : Int))
theorem Mk.cells {w : World} {g n cap : Nat} {xs : List Nat} (h : Mk w g n cap xs) (j : Nat) (hj : j < n + 2) : w.cell? ⟨g, j, none⟩ = some (.int .u8 (((xs ++ [165, 90]).getD j 0 : Nat) : Int)) := by
  obtain ⟨cs, hb, hc⟩ := h.block
  rw [cell_of_row w g j cs 5 (0, 0) hb]
  exact hc j hj
theorem Mk.row {w : World} {g n cap : Nat} {xs : List Nat} (h : Mk w g n cap xs) : Rdv w (some ⟨g, 0, none⟩) n 1 (valsB xs) := by
  have hl := h.len
  refine ⟨by rw [valsB_length]; omega, fun _ => ⟨g, 0, rfl, fun j u hj => ?_⟩⟩
  rw [valsB_get] at hj
  cases hx : xs[j]? with
  | none => rw [hx] at hj; cases hj
  | some x =>
    rw [hx] at hj
    cases hj
    have hjl := (List.getElem?_eq_some_iff.1 hx).1
    rw [Nat.zero_add, h.cells j (by omega)]
    simp [List.getD_eq_getElem?_getD, List.getElem?_append_left hjl, hx]
theorem Mk.lt {w : World} {g n cap : Nat} {xs : List Nat} (h : Mk w g n cap xs) : g < w.heap.size := by
  obtain ⟨cs, hb, _⟩ := h.block
  exact (Array.getElem?_eq_some_iff.1 hb).1
theorem Mk.at {w w' : World} {g n cap : Nat} {xs : List Nat} (h : Mk w g n cap xs) (hb : w'.heap[g]? = w.heap[g]?) : Mk w' g n cap xs := by
  obtain ⟨cs, h1, h2⟩ := h.block
  exact ⟨h.len, h.cap, cs, hb.trans h1, h2⟩
end Go.Proofs.Ytjmjehhmkjhalaa
