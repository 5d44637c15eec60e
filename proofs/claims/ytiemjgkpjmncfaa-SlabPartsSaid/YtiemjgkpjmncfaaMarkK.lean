/- The contract of num.Apart once more: what holds no cells is left as it was. -/
import Derived.Test.YtiemjgkpjmncfaaMarkW
import Derived.Test.YtiemjgkpjmncfaaPartsI
import Derived.BigQuiet
import Derived.Deep.QuietTactic
namespace Go.Proofs.Ytiemjgkpjmncfaa
set_option maxRecDepth 100000
open Go.RowKit

theorem keepsOthers_setAt {W : World} {g j : Nat} {cs : Array Value} {t : TypeId} (h : W.heap[g]? = some (.cells cs t (0, 0))) (v : Value) : KeepsOthers W (W.setCell ⟨g, j, none⟩ v) :=
  ⟨by rw [World.size_setCell]; omega, fun k o hk ho => by
    by_cases e : k = g
    · subst e; rw [h] at hk; cases hk; cases ho
    · exact (heap_setCell_other W ⟨g, j, none⟩ k v e).trans hk⟩
theorem keepsOthers_alloc (W : World) (o : Obj) : KeepsOthers W (W.alloc o) := ⟨by rw [World.size_alloc]; omega, fun k _ hk _ => (heap_old W o k (Array.getElem?_eq_some_iff.1 hk).1).trans hk⟩
theorem keepsOthers_grown {W W' : World} {r : Option Nat} (hg : W.grownBy W' r) (hr : ∀ b, r = some b → ∃ cs t, W.heap[b]? = some (.cells cs t (0, 0))) : KeepsOthers W W' :=
  ⟨hg.size, fun k o hk ho => (hg.block k (Array.getElem?_eq_some_iff.1 hk).1 (fun e => by
    obtain ⟨cs, t, h⟩ := hr k e.symm
    rw [h] at hk; cases hk; cases ho)).trans hk⟩
theorem Apn.others {w w' : World} {A : Option Addr} {n c : Nat} {xs : List Nat} {y g' c' : Nat} (h : Og w A n c xs) (ha : Apn w w' A n xs y g' c') : KeepsOthers w w' := by
  obtain ⟨_, hs, hh, _⟩ := ha
  refine ⟨hs, fun k o hk ho => ?_⟩
  have hb := (Array.getElem?_eq_some_iff.1 hk).1
  rcases hh with ⟨e, h1⟩ | ⟨_, h1⟩
  · refine (h1 k hb (fun e2 => ?_)).trans hk
    subst e2 e
    obtain ⟨_, _, cur, h2⟩ := Ow.parts (c := c) h
    rw [h2] at hk; cases hk; cases ho
  · exact (h1 k hb).trans hk
/-- Below a block, and what holds no cells. -/
structure Bel (B : Nat) (w w' : World) : Prop where
  bel : Below B w w'
  oth : KeepsOthers w w'
set_option maxHeartbeats 1000000 in
theorem rows_apartK (G K C : Nat) (A : Nat → Option Addr) (n c : Nat → Nat) (f : Nat → List Nat) (w : World) (R : Rows w G K A n c) (D : Sep G K A n) (F : ∀ i, i < K → Og w (A i) (n i) (c i) (f i)) (B : Nat) (hB : B ≤ w.heap.size) (hBA : ∀ i, i < K → ∀ g, A i = some ⟨g, 0, none⟩ → B ≤ g) :
    Calls Try.prog 43 #[.slice (some ⟨G, 0, none⟩) K C] w fun e w' => e = .returned (.bool true) ∧ Bel B w w' := by
  have HD := Lib.hid D
  have hK := D.few
  have H0 := Lib.hid (S1.start R F)
  have HB := Lib.hid hB
  have HBA := Lib.hid hBA
  clear R D F hB hBA
  go_enter Try.func43, Try.ntmps43
  go_wp2_with fail
  go_loopw [15] (fun i wr => ∃ k : Nat, k ≤ K ∧ i = .int .i64 (k : Int) ∧ S1 wr G K A n c k 0 ∧ Bel B w wr) (fun i _ => K - (intOf i).toNat)
  case atStart => exact ⟨0, Nat.zero_le _, rfl, H0.out, Below.refl _ _, KeepsOthers.refl _⟩
  case round =>
    obtain ⟨k, hk, rfl, hs, hb⟩ := hrel
    have HB1 := Lib.hid hb
    clear hb
    by_cases hlt : k < K
    · have ht := hs.1.tab k hlt
      have hn := HD.out.short k hlt
      obtain ⟨A0, hA0⟩ : ∃ x, x = A k := ⟨_, rfl⟩
      obtain ⟨n0, hn0⟩ : ∃ x, x = n k := ⟨_, rfl⟩
      obtain ⟨c0, hc0⟩ : ∃ x, x = c k := ⟨_, rfl⟩
      rw [← hA0, ← hn0, ← hc0] at ht
      rw [← hn0] at hn
      have HA := Lib.hid hA0
      have HN := Lib.hid hn0
      have HC := Lib.hid hc0
      have HS := Lib.hid hs
      clear hs hA0 hn0 hc0
      go_wp2_with fail
      go_loopw [22] (fun i wr => ∃ j : Nat, j ≤ n0 ∧ i = .int .i64 (j : Int) ∧ S1 wr G K A n c k j ∧ Bel B w wr) (fun i _ => n0 - (intOf i).toNat)
      case atStart => exact ⟨0, Nat.zero_le _, rfl, HS.out, HB1.out⟩
      case round =>
        obtain ⟨j, hj, rfl, hs, hb⟩ := hrel
        have HB2 := Lib.hid hb
        clear hb
        by_cases hjl : j < n0
        · have ho : ∃ xs, Og wr A0 n0 c0 xs := by
            obtain ⟨_, f, h2, _⟩ := hs
            have h3 := h2 k hlt
            rw [← HA.out, ← HN.out, ← HC.out] at h3
            exact ⟨_, h3⟩
          obtain ⟨xs, ho⟩ := ho
          obtain ⟨g, rfl, hw⟩ := ho.pos (by omega)
          have c1 := hw.cell j hjl
          have f1 := hw.frozen j
          have h5 := hs.set HD.out hlt (by rw [← HN.out]; exact hjl) HA.out.symm
          have e1 := mrk_wrap k j
          obtain ⟨y, hy⟩ : ∃ y, y = mrk k j := ⟨_, rfl⟩
          rw [← hy] at e1 h5
          have HS5 := Lib.hid h5
          have HB3 := Lib.hid (⟨HB2.out.bel.setCell (show B ≤ (⟨g, j, none⟩ : Addr).block from HBA.out k hlt g HA.out.symm) (.int .u8 (y : Int)), HB2.out.oth.trans (by obtain ⟨_, _, cur, hcur⟩ := hw.parts; exact keepsOthers_setAt hcur _)⟩ : Bel B w (wr.setCell ⟨g, j, none⟩ (.int .u8 (y : Int))))
          have e2 : IntKind.i64.wrap (31 * (k : Int)) = 31 * (k : Int) := IntWalk.i64_in _ (by omega)
          have e3 : IntKind.i64.wrap (3 * (j : Int)) = 3 * (j : Int) := IntWalk.i64_in _ (by omega)
          have e4 : IntKind.i64.wrap (31 * (k : Int) + 3 * (j : Int)) = 31 * (k : Int) + 3 * (j : Int) := IntWalk.i64_in _ (by omega)
          have e5 : IntKind.i64.wrap (31 * (k : Int) + 3 * (j : Int) + 1) = 31 * (k : Int) + 3 * (j : Int) + 1 := IntWalk.i64_in _ (by omega)
          clear hs ho hw hy h5
          go_wp2_with fail
          exact ⟨⟨j + 1, by omega, by go_num, HS5.out, HB3.out⟩, by simp [intOf]; omega⟩
        · obtain rfl : j = n0 := by omega
          rw [HN.out] at hs
          have HS5 := Lib.hid (hs.next hlt)
          clear hs
          go_wp2_with fail
          exact ⟨⟨k + 1, by omega, by go_num, HS5.out, HB2.out⟩, by simp [intOf]; omega⟩
    · obtain rfl : k = K := by omega
      obtain ⟨h3, hL⟩ := S3.start hs
      obtain ⟨z, hz⟩ : ∃ z, z = wr.heap.size := ⟨_, rfl⟩
      rw [← hz] at h3 hL
      have HZ := Lib.hid hz
      have H3 := Lib.hid h3
      have HL := Lib.hid hL
      have HB3 := Lib.hid (⟨HB1.out.bel.alloc (Nat.le_trans HB.out HB1.out.bel.size) (.cells #[] 45), HB1.out.oth.trans (keepsOthers_alloc _ _)⟩ : Bel B w (wr.alloc (.cells #[] 45)))
      have HZB := Lib.hid (show B ≤ z by rw [hz]; exact Nat.le_trans HB.out HB1.out.bel.size)
      clear h3 hL hz hs H0
      go_wp2_with fail
      rw [← HZ.out]
      go_loopw [6, 40] (fun v i ws => ∃ (m : Nat) (g' c' : Nat → Nat), m ≤ k ∧ i = .int .i64 (m : Int) ∧ S3 ws z G k A n c m v g' c' ∧ Bel B w ws) (fun _ i _ => k - (intOf i).toNat)
      case atStart => exact ⟨0, _, _, Nat.zero_le _, rfl, H3.out, HB3.out⟩
      case round =>
        obtain ⟨m, g', c', hm, rfl, hs, hb⟩ := hrel
        rename World => ws
        have HB4 := Lib.hid hb
        clear hb
        by_cases hlt : m < k
        · have ht := hs.rows.tab m hlt
          have hn := HD.out.short m hlt
          have how := hs.own m (Nat.le_refl _) hlt
          obtain ⟨A0, hA0⟩ : ∃ x, x = A m := ⟨_, rfl⟩
          obtain ⟨n0, hn0⟩ : ∃ x, x = n m := ⟨_, rfl⟩
          obtain ⟨c0, hc0⟩ : ∃ x, x = c m := ⟨_, rfl⟩
          rw [← hA0, ← hn0, ← hc0] at ht how
          rw [← hn0] at hn
          have HA := Lib.hid hA0
          have HN := Lib.hid hn0
          have HC := Lib.hid hc0
          have HS := Lib.hid hs
          have HT := Lib.hid (Ten.start how)
          have HLO := Lib.hid (show ∀ b off, A0 = some ⟨b, off, none⟩ → off = 0 ∧ b < ws.heap.size from fun b off e => by
            have h5 := HL.out.2 m hlt b off (by rw [← hA0]; exact e)
            exact ⟨h5.1, Nat.lt_of_lt_of_le h5.2 hs.size⟩)
          clear hs how hA0 hn0 hc0
          have e0 : IntKind.i64.wrap ((n0 : Int) + 10) = (n0 : Int) + 10 := IntWalk.i64_in _ (by omega)
          go_wp2_with fail
          go_loopw [8] (fun x wx => ∃ (j cx : Nat) (X : Option Addr), j ≤ n0 + 10 ∧ x = .slice X j cx ∧ Ten ws wx m j A0 n0 X cx ∧ Bel B w wx) (fun x _ => n0 + 10 - lenV x)
          case atStart => exact ⟨n0, c0, A0, by omega, rfl, HT.out, HB4.out⟩
          case round =>
            obtain ⟨j, cx, X, hj, rfl, hs, hb⟩ := hrel
            rename World => wx
            have HB5 := Lib.hid hb
            clear hb
            by_cases hjl : j < n0 + 10
            · have d1 : decide ((j : Int) < (n0 : Int) + 10) = true := decide_eq_true (by omega)
              have e1 := mrk_wrap m j
              obtain ⟨y, hy⟩ : ∃ y, y = mrk m j := ⟨_, rfl⟩
              rw [← hy] at e1
              have HY := Lib.hid hy
              have e2 : IntKind.i64.wrap (31 * (m : Int)) = 31 * (m : Int) := IntWalk.i64_in _ (by omega)
              have e3 : IntKind.i64.wrap (3 * (j : Int)) = 3 * (j : Int) := IntWalk.i64_in _ (by omega)
              have e4 : IntKind.i64.wrap (31 * (m : Int) + 3 * (j : Int)) = 31 * (m : Int) + 3 * (j : Int) := IntWalk.i64_in _ (by omega)
              have e5 : IntKind.i64.wrap (31 * (m : Int) + 3 * (j : Int) + 1) = 31 * (m : Int) + 3 * (j : Int) + 1 := IntWalk.i64_in _ (by omega)
              have hs2 := hs.alloc HLO.out (.cells #[.int .u8 (y : Int)] 5)
              have HO := Lib.hid hs2.own
              have HXB := Lib.hid (show ∀ g, X = some ⟨g, 0, none⟩ → B ≤ g from fun g e => by
                rcases hs.at_ with h1 | ⟨g1, h1, h2⟩
                · exact HBA.out m hlt g (by rw [← HA.out, ← h1]; exact e)
                · rw [h1] at e
                  injection e with e
                  injection e with e
                  have := HZB.out
                  have := HS.out.size
                  omega)
              have HB6 := Lib.hid (⟨HB5.out.bel.alloc (Nat.le_trans HB.out HB5.out.bel.size) (.cells #[.int .u8 (y : Int)] 5), HB5.out.oth.trans (keepsOthers_alloc _ _)⟩ : Bel B w (wx.alloc (.cells #[.int .u8 (y : Int)] 5)))
              have HS2 := Lib.hid hs2
              have HJ := Lib.hid (show j ≤ 1000000 by omega)
              have HR := Lib.hid (rdv_one wx y)
              clear hs hs2 hy
              go_wp2_with (at_builtin; refine wpList_apn rfl (.tmp 52) (.tmp 61) rfl X j cx (marks m j) rfl HO.out wx.heap.size y 1 rfl HR.out HJ.out ?_; intro g2 c2 w3 hapn)
              have hy := HY.out
              subst hy
              exact ⟨⟨j + 1, c2, _, by omega, rfl, HS2.out.next HLO.out hapn, ⟨HB6.out.bel.trans (hapn.2.2.2 B (Nat.le_trans HB.out HB6.out.bel.size) HXB.out), HB6.out.oth.trans (Apn.others HO.out hapn)⟩⟩, by simp [lenV]; omega⟩
            · obtain rfl : j = n0 + 10 := by omega
              have d1 : decide (((n0 + 10 : Nat) : Int) < (n0 : Int) + 10) = false := decide_eq_false (by omega)
              obtain ⟨g, rfl, how⟩ := hs.own.pos (by omega)
              have hTT := hs
              rw [HA.out, HN.out] at hTT
              obtain ⟨hown, hpush⟩ := HS.out.push HL.out HD.out hlt hTT (.cells #[.slice (some ⟨g, 0, none⟩) (n0 + 10) cx] 45)
              rw [← HN.out] at hpush
              have HOWN := Lib.hid hown
              have HPUSH := Lib.hid hpush
              have HB6 := Lib.hid (⟨HB5.out.bel.alloc (Nat.le_trans HB.out HB5.out.bel.size) (.cells #[.slice (some ⟨g, 0, none⟩) (n0 + 10) cx] 45), HB5.out.oth.trans (keepsOthers_alloc _ _)⟩ : Bel B w (wx.alloc (.cells #[.slice (some ⟨g, 0, none⟩) (n0 + 10) cx] 45)))
              have HROW := Lib.hid (show Rdv (wx.alloc (.cells #[.slice (some ⟨g, 0, none⟩) (n0 + 10) cx] 45)) (some ⟨wx.heap.size, 0, none⟩) 1 1 [.slice (some ⟨g, 0, none⟩) (n0 + 10) cx] from ⟨rfl, fun _ => ⟨_, _, rfl, fun j u hj => by
                rw [cell_of_row _ _ _ _ 45 (0, 0) (heap_alloc_new wx _), Nat.zero_add]
                simpa using hj⟩⟩)
              have HM1 := Lib.hid (show m + 1 ≤ maxLen by unfold maxLen; omega)
              have HM2 := Lib.hid (show (m + 1) * 24 ≤ 140737488355328 by omega)
              have HM3 := Lib.hid (show z ≤ (wx.alloc (.cells #[.slice (some ⟨g, 0, none⟩) (n0 + 10) cx] 45)).heap.size by rw [World.size_alloc]; have := HS.out.size; have := hs.size; omega)
              have HONE := Lib.hid (show ∀ u ∈ [Value.slice (some ⟨g, 0, none⟩) (n0 + 10) cx], u.oneCell' = true from fun u hu => by
                simp only [List.mem_singleton] at hu
                rw [hu]; rfl)
              clear hs how hTT hown hpush
              go_wp2_with (at_builtin; refine wpList_append_rowv elemL rfl (.tmp 63) (.tmp 65) rfl z _ m (outs n g' c' m) rfl HOWN.out (some ⟨wx.heap.size, 0, none⟩) 1 1 [.slice (some ⟨g, 0, none⟩) (n0 + 10) cx] rfl HROW.out HONE.out (fun h => by cases h) HM1.out HM2.out HM3.out ?_; intro v2 w4 hown4 hgr4 _)
              exact ⟨⟨m + 1, _, _, by omega, by go_num, HPUSH.out _ _ hown4 hgr4, ⟨HB6.out.bel.grown hgr4 (Nat.le_trans HB.out HB6.out.bel.size) (fun q hq => Nat.le_trans HZB.out (own_kind HOWN.out q hq).1), HB6.out.oth.trans (keepsOthers_grown hgr4 (fun q hq => by obtain ⟨_, cur, hcur⟩ := own_kind HOWN.out q hq; exact ⟨cur, _, hcur⟩))⟩⟩, by simp [intOf]; omega⟩
        · obtain rfl : m = k := by omega
          obtain ⟨A2, c2, rfl, hr2, _, _⟩ := rdv_own hs.out
          have HR2 := Lib.hid hr2
          have HS := Lib.hid hs
          clear hs hr2 H3 HZ
          go_wp2_with fail
          go_loopw [70] (fun i wr => ∃ k : Nat, k ≤ m ∧ i = .int .i64 (k : Int) ∧ ∃ t, wr = ws.drewN t) (fun i _ => m - (intOf i).toNat)
          case atStart => exact ⟨0, Nat.zero_le _, rfl, 0, rfl⟩
          case round =>
            obtain ⟨k, hk, rfl, t, rfl⟩ := hrel
            by_cases hlt : k < m
            · have hn := HD.out.short k hlt
              obtain ⟨b2, off2, rfl, hc2⟩ := HR2.out.2 (by omega)
              have ht := hc2 k _ (outs_get n g' c' m k hlt)
              have hta := HS.out.rows.tab k hlt
              have hnew := HS.out.new k hlt
              have hold := HS.out.old k hlt
              obtain ⟨n0, hn0⟩ : ∃ x, x = n k := ⟨_, rfl⟩
              obtain ⟨A0, hA0⟩ : ∃ x, x = A k := ⟨_, rfl⟩
              obtain ⟨c0, hc0⟩ : ∃ x, x = c k := ⟨_, rfl⟩
              obtain ⟨g0, hg0⟩ : ∃ x, x = g' k := ⟨_, rfl⟩
              obtain ⟨q0, hq0⟩ : ∃ x, x = c' k := ⟨_, rfl⟩
              rw [← hn0, ← hg0, ← hq0] at ht
              rw [← hn0, ← hA0, ← hc0] at hta
              rw [← hn0] at hn
              rw [← hn0, ← hg0] at hnew
              rw [← hn0, ← hA0] at hold
              have HN := Lib.hid hnew
              have HO := Lib.hid hold
              clear hn0 hA0 hc0 hg0 hq0 hnew hold hc2
              go_wp2_with fail
              go_loopw [77] (fun i wr => ∃ j : Nat, j ≤ n0 + 10 ∧ i = .int .i64 (j : Int) ∧ ∃ t, wr = ws.drewN t) (fun i _ => n0 + 10 - (intOf i).toNat)
              case atStart => exact ⟨0, Nat.zero_le _, rfl, t, rfl⟩
              case round =>
                obtain ⟨j, hj, rfl, t2, rfl⟩ := hrel
                by_cases hjl : j < n0 + 10
                · obtain ⟨g1, o1, eg, hc1⟩ := HN.out.2 (by omega)
                  injection eg with eg
                  injection eg with eg1 eg2
                  subst eg1 eg2
                  have c1 := hc1 j (.int .u8 ((mrk k j : Nat) : Int)) (by rw [valsB_get, marks_get k _ j hjl]; rfl)
                  rw [Nat.zero_add] at c1
                  have e1 := mrk_wrap k j
                  have hc3 : j < n0 → ∃ b off, A0 = some ⟨b, off, none⟩ ∧ ws.cell? ⟨b, off + j, none⟩ = some (.int .u8 ((mrk k j : Nat) : Int)) := fun h => by
                    obtain ⟨b, off, e, h1⟩ := HO.out.2 (by omega)
                    exact ⟨b, off, e, h1 j _ (by rw [valsB_get, marks_get k _ j h]; rfl)⟩
                  obtain ⟨y, hy⟩ : ∃ y, y = mrk k j := ⟨_, rfl⟩
                  rw [← hy] at e1 c1 hc3
                  have e2 : IntKind.i64.wrap (31 * (k : Int)) = 31 * (k : Int) := IntWalk.i64_in _ (by omega)
                  have e3 : IntKind.i64.wrap (3 * (j : Int)) = 3 * (j : Int) := IntWalk.i64_in _ (by omega)
                  have e4 : IntKind.i64.wrap (31 * (k : Int) + 3 * (j : Int)) = 31 * (k : Int) + 3 * (j : Int) := IntWalk.i64_in _ (by omega)
                  have e5 : IntKind.i64.wrap (31 * (k : Int) + 3 * (j : Int) + 1) = 31 * (k : Int) + 3 * (j : Int) + 1 := IntWalk.i64_in _ (by omega)
                  have e6 : ((y : Int) != (y : Int)) = false := by simp
                  clear hy hc1
                  by_cases hjn : j < n0
                  · obtain ⟨b, off, rfl, c3⟩ := hc3 hjn
                    have d1 : decide (j < n0) = true := decide_eq_true hjn
                    clear HO HN
                    go_wp2_with fail
                    go_quiet (fail)
                    go_wp2_with fail
                    exact ⟨⟨j + 1, by omega, by go_num, _, rfl⟩, by simp [intOf]; omega⟩
                  · have d1 : decide (j < n0) = false := decide_eq_false hjn
                    clear HO HN hc3
                    go_wp2_with fail
                    go_quiet (fail)
                    go_wp2_with fail
                    exact ⟨⟨j + 1, by omega, by go_num, _, rfl⟩, by simp [intOf]; omega⟩
                · clear HO HN
                  go_wp2_with fail
                  exact ⟨⟨k + 1, by omega, by go_num, _, rfl⟩, by simp [intOf]; omega⟩
            · go_wp2_with fail
              go_ret
              exact ⟨rfl, ⟨HB4.out.bel.os, HB4.out.bel.tape, HB4.out.bel.output, HB4.out.bel.size, HB4.out.bel.block⟩, HB4.out.oth.size, HB4.out.oth.same⟩
end Go.Proofs.Ytiemjgkpjmncfaa
