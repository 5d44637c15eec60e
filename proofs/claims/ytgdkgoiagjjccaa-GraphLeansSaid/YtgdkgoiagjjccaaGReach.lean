/- graph.reach. -/
import Derived.Test.YtgdkgoiagjjccaaGReachD
import Derived.Test.YtgdkgoiagjjccaaZB
import Derived.Deep.CutRange
import Derived.Deep.CutBlock
namespace Go.Proofs.Ytgdkgoiagjjccaa
set_option maxRecDepth 100000
open Go.RowKit

/-- What is marked. -/
def mkF (f : Nat → Int) (mark : Int) : Nat → Bool := fun x => decide (f x = mark)
theorem mkF_upd (f : Nat → Int) (mark : Int) (j : Nat) : mkF (upd f j mark) mark = upd (mkF f mark) j true := by
  funext x
  unfold mkF
  by_cases e : x = j
  · subst e; rw [upd_same, upd_same]; simp
  · rw [upd_other _ _ e, upd_other _ _ e]
/-- How the search's memory stands. -/
structure RS (B : Nat) (W0 : World) (g n : Nat) (ls : List (List Int)) (fr : Nat) (least mark : Int) (f : Nat → Int) (W1 : World) (T : List Int) (f' : Nat → Int) (v : Value) (W : World) : Prop where
  own : W.ownsRow W1.heap.size 3 1 v T.length (valsZ T)
  rng : ∀ x ∈ T, 0 ≤ x ∧ x < (n : Int)
  nums : LV B W0 g n f' W
  only : Only1 W1 g W
  stay : ∀ x, f' x = f x ∨ f' x = mark
  few : T.length + unm (mkF f' mark) n ≤ n + 1
theorem unm_le (M : Nat → Bool) (n : Nat) : unm M n ≤ n := by
  induction n with
  | zero => exact Nat.le_refl _
  | succ n ih => unfold unm; split <;> omega
/-- How many a world's cells say are not marked. -/
noncomputable def unmW (W : World) (g : Nat) (mark : Int) (n : Nat) : Nat := unm (fun x => @decide (W.cell? ⟨g, x, none⟩ = some (.int .i64 mark)) (Classical.propDecidable _)) n
theorem unm_eq {M K : Nat → Bool} : ∀ n, (∀ x, x < n → M x = K x) → unm M n = unm K n
  | 0, _ => rfl
  | n + 1, h => by unfold unm; rw [unm_eq n fun x hx => h x (by omega), h n (by omega)]
theorem unmW_eq {B : Nat} {W0 W : World} {g n : Nat} {f : Nat → Int} {mark : Int} (h : LV B W0 g n f W) : unmW W g mark n = unm (mkF f mark) n := by
  unfold unmW
  refine unm_eq n fun x hx => ?_
  have hc := h.cells x hx
  unfold mkF
  by_cases e : f x = mark
  · rw [decide_eq_true e]
    exact @decide_eq_true _ (Classical.propDecidable _) (by rw [hc, e])
  · rw [decide_eq_false e]
    refine @decide_eq_false _ (Classical.propDecidable _) fun h2 => e ?_
    rw [hc] at h2
    injection h2 with h2
    injection h2
/-- A slice's length. -/
def lenV : Value → Nat
  | .slice _ n _ => n
  | _ => 0
set_option maxHeartbeats 4000000 in
theorem reach_any {B : Nat} {W0 W1 : World} {g n : Nat} {f : Nat → Int} (A : Option Addr) (c c2 : Nat) (ls : List (List Int)) (fr : Nat) (mark least : Int) (h : Rws W0 A n ls) (hB : W0.heap.size ≤ B) (hg : GoodL ls) (hV : LV B W0 g n f W1) (hfr : fr < n) (hn : n ≤ 10000) (hz : B ≤ W1.heap.size)
    (hcl : ∀ x, mkF f mark x = true → ∀ j ∈ ls.getD x [], least ≤ j → mkF f mark j.toNat = true) :
    Calls Try.prog 66 #[.slice A n c, .slice (some ⟨g, 0, none⟩) n c2, .int .i64 (fr : Int), .int .i64 mark, .int .i64 least] W1 fun e w' => e = .returned (.tuple #[]) ∧ ∃ f', Rch ls fr least (mkF f mark) (mkF f' mark) [] ∧ LV B W0 g n f' w' ∧ Only1 W1 g w' ∧ ∀ x, f' x = f x ∨ f' x = mark := by
  have hgl := hV.lt
  have hb1 := (Below.refl W1.heap.size W1).alloc (Nat.le_refl _) (.cells #[.int .i64 (fr : Int)] 3)
  have HS := Lib.hid (show RS B W0 g n ls fr least mark f W1 [(fr : Int)] f (.slice (some ⟨W1.heap.size, 0, none⟩) 1 1) (W1.alloc (.cells #[.int .i64 (fr : Int)] 3)) from
    ⟨own_single W1 _ 3 _ (Nat.le_refl _), fun x hx => by rw [List.mem_singleton.1 hx]; omega, hV.ext hz hV.lt hz hb1, Only1.refl.below hb1, fun x => .inl rfl, by have := unm_le (mkF f mark) n; simp only [List.length_cons, List.length_nil]; omega⟩)
  have HR := Lib.hid (Rch.start (least := least) (fr := fr) hcl)
  have HH := Lib.hid h
  have HG := Lib.hid hg
  clear h hg hV hcl hb1
  go_enter Try.func66, Try.ntmps66
  go_wp2_with fail
  go_loopw [10, 11, 12, 14] (fun v _ _ _ wr => ∃ (T : List Int) (f' : Nat → Int), RS B W0 g n ls fr least mark f W1 T f' v wr ∧ Hid (Rch ls fr least (mkF f mark) (mkF f' mark) T)) (fun v _ _ _ wr => lenV v + unmW wr g mark n)
  case atStart => exact ⟨_, _, HS.out, HR.out⟩
  case round =>
    obtain ⟨T, f', hS, hR⟩ := hrel
    rename World => wr
    have hft : ∀ x ∈ T, Fits x := fun x hx => by
      have := hS.rng x hx
      unfold Fits
      omega
    obtain ⟨A1, c1, hv1, hnum, _, hcap⟩ := nums_own hS.own hft
    subst hv1
    have hlen : T.length ≤ n + 1 := by have := hS.few; omega
    rcases List.eq_nil_or_concat T with rfl | ⟨T', x, rfl⟩
    · have HQ := Lib.hid hS
      clear hS hnum hcap hft HS HR
      go_wp2_with fail
      exact bodyPost_end (v := .tuple #[]) (by simp [results, Try.results66, go_sem]) rfl ⟨rfl, f', hR.out, HQ.out.nums, HQ.out.only, HQ.out.stay⟩
    · simp only [List.concat_eq_append] at hS hR hnum hcap hlen hft ⊢
      have hxr := hS.rng x (List.mem_append.2 (.inr (List.mem_singleton.2 rfl)))
      obtain ⟨i, rfl⟩ : ∃ i : Nat, x = (i : Int) := ⟨x.toNat, by omega⟩
      have hin : i < n := by omega
      obtain ⟨k, hk⟩ : ∃ k, k = T'.length := ⟨_, rfl⟩
      have hk1 : (T' ++ [(i : Int)]).length = k + 1 := by simp [hk]
      rw [hk1] at hnum hcap hlen
      obtain ⟨b, off, rfl, hc⟩ := hnum.2.2 (by omega)
      have cx := hc k (by omega)
      rw [show (T' ++ [(i : Int)]).getD k 0 = (i : Int) by rw [hk]; simp [List.getD_eq_getElem?_getD]] at cx
      have HN0 := Lib.hid (show ∀ wx, Below W0.heap.size W0 wx → ∃ b2 off2, A = some ⟨b2, off2, none⟩ ∧ ∃ A' c', wx.cell? ⟨b2, off2 + i, none⟩ = some (.slice A' (ls.getD i []).length c') ∧ Nums wx A' (ls.getD i []).length (ls.getD i []) ∧ (ls.getD i []).length ≤ 9223372036854775807 ∧ ∀ wy, Below W0.heap.size W0 wy → Nums wy A' (ls.getD i []).length (ls.getD i []) from fun wx hx => by
        obtain ⟨b2, off2, e', hrow'⟩ := HH.out.2.2 (by omega)
        obtain ⟨A', c', q1, q2, q3⟩ := hrow' i hin
        exact ⟨b2, off2, e', A', c', (stays_w hx _ (World.block_lt_of_cell? _ _ q1)).trans q1, q2.ext (stays_w hx), q3, fun wy hy => q2.ext (stays_w hy)⟩)
      obtain ⟨l, hl⟩ : ∃ l, l = ls.getD i [] := ⟨_, rfl⟩
      rw [← hl] at HN0
      obtain ⟨b2, off2, rfl, A', c', hc1, _, hm', HN⟩ := HN0.out wr (hS.nums.below.mono hB)
      have HN := Lib.hid HN
      have HEQ := Lib.hid hl
      have hown := hS.own
      rw [hk1, valsZ_snoc] at hown
      obtain ⟨m0, hm0⟩ : ∃ m0, m0 = unm (mkF f' mark) n := ⟨_, rfl⟩
      have HM0 := Lib.hid hm0
      have HUW := Lib.hid (show unmW wr g mark n = m0 by rw [unmW_eq hS.nums, hm0])
      have hfew := hS.few
      rw [hk1, ← hm0] at hfew
      have HS2 := Lib.hid (show RS B W0 g n ls fr least mark f W1 T' f' (.slice (some ⟨b, off, none⟩) k c1) wr from
        ⟨by have h5 := own_pop hown; rw [hk] at h5 ⊢; exact h5, fun x hx => hS.rng x (List.mem_append.2 (.inl hx)), hS.nums, hS.only, hS.stay, by rw [← hm0, ← hk]; omega⟩)
      have HP := Lib.hid hR.out.pop
      have HK := Lib.hid hk
      have HFEW := Lib.hid hfew
      rw [hk1]
      clear hS hR hc hown hnum hft HS HR HN0 hl hm0 hk hk1 hfew
      go_wp2_with fail
      clear cx hc1
      go_loopw [10, 14, 35] (fun v _ x wx => ∃ (T2 : List Int) (f2 : Nat → Int) (q : Nat), x = .int .i64 (q : Int) ∧ q ≤ l.length ∧ RS B W0 g n ls fr least mark f W1 T2 f2 v wx ∧ Hid (RchI ls fr least (mkF f mark) (mkF f2 mark) T2 i q) ∧ T2.length + unm (mkF f2 mark) n ≤ k + m0) (fun _ _ x _ => l.length - (intOf x).toNat)
      case atStart => exact ⟨T', f', 0, rfl, by omega, HS2.out, HP, by rw [← HM0.out, ← HK.out]; exact Nat.le_refl _⟩
      case round =>
        obtain ⟨T2, f2, q, rfl, hq, hX, hRI, hmm⟩ := hrel
        rename World => wx
        clear HS2 HP
        by_cases hql : q < l.length
        · have hnx := HN.out wx (hX.nums.below.mono hB)
          obtain ⟨b3, off3, rfl, hc2⟩ := hnx.2.2 (by omega)
          have c2 := hc2 q hql
          have hjm := HG.out.mem (i := i) (x := l.getD q 0) (by rw [← HEQ.out]; exact getD_mem hql)
          obtain ⟨x, hx⟩ : ∃ x : Nat, (x : Int) = l.getD q 0 := ⟨(l.getD q 0).toNat, by omega⟩
          have HX := Lib.hid (show (ls.getD i []).getD q 0 = (x : Int) by rw [← HEQ.out, hx])
          rw [← hx] at c2 hjm
          have hxi : x < i := by omega
          have hcx := hX.nums.cells x (by omega)
          have frx := hX.nums.fr x
          obtain ⟨A5, c5, hv5, _, _, _⟩ := nums_own hX.own (fun x hx => by have := hX.rng x hx; unfold Fits; omega)
          subst hv5
          obtain ⟨z, hz⟩ : ∃ z, z = f2 x := ⟨_, rfl⟩
          rw [← hz] at hcx
          have HXX := Lib.hid hX
          have HZ := Lib.hid hz
          clear hc2 hnx hx hX hz hjm
          by_cases h1 : least ≤ (x : Int)
          · by_cases h2 : z = mark
            · have HSK := Lib.hid (hRI.out.skip fun _ => by rw [HX.out, Int.toNat_natCast]; unfold mkF; rw [← HZ.out]; exact decide_eq_true h2)
              go_wp2_with fail
              go_roundw
              case rel => exact ⟨T2, f2, q + 1, by go_num, by omega, HXX.out, HSK, hmm⟩
              case measure => simp [intOf]; omega
            · have HPU := Lib.hid (hRI.out.push HG.out (by rw [← HEQ.out]; exact hql) HX.out h1)
              have hun := unm_set (M := mkF f2 mark) (j := x) (by unfold mkF; rw [← HZ.out]; exact decide_eq_false h2) n (by omega)
              have HUN := Lib.hid hun
              have HR3 := Lib.hid (rdv_one1 (wx.setCell ⟨g, x, none⟩ (.int .i64 mark)) (.int .i64 (x : Int)) 3)
              have hbs : Below W1.heap.size (wx.setCell ⟨g, x, none⟩ (.int .i64 mark)) ((wx.setCell ⟨g, x, none⟩ (.int .i64 mark)).alloc (.cells #[.int .i64 (x : Int)] 3)) := (Below.refl _ _).alloc (by rw [World.size_setCell]; exact HXX.out.only.size) _
              have HBS := Lib.hid hbs
              have HO3 := Lib.hid (World.ownsRow.alloc (own_stays (w' := wx.setCell ⟨g, x, none⟩ (.int .i64 mark)) HXX.out.own fun y hy => Below.heap_setCell _ _ _ _ (by have := (HXX.out.own.lt y hy).1; show y ≠ g; omega)) (.cells #[.int .i64 (x : Int)] 3))
              have hT : T2.length ≤ n := by have := HXX.out.few; omega
              have hwz := HXX.out.only.size
              clear hun hbs hRI
              obtain ⟨t2, ht2⟩ : ∃ t2, t2 = T2.length := ⟨_, rfl⟩
              have HT2 := Lib.hid ht2
              rw [← ht2] at HO3 hT ⊢
              clear ht2
              go_wp2_with (at_builtin; refine wpList_append_rowv elem38 rfl (.tmp 54) (.tmp 56) rfl W1.heap.size (.slice A5 t2 c5) t2 (valsZ T2) rfl HO3.out (some ⟨wx.heap.size, 0, none⟩) 1 1 [.int .i64 (x : Int)] rfl (by have h5 := HR3.out; rw [World.size_setCell] at h5; exact h5) (one_int1 _) (fun h => by cases h) (by unfold maxLen; omega) (by omega) (by rw [World.size_alloc, World.size_setCell]; omega) ?_; intro v3 w3 hown3 hb3)
              have hbb := HBS.out.trans hb3
              go_roundw
              case rel =>
                refine ⟨T2 ++ [(x : Int)], upd f2 x mark, q + 1, by go_num, by omega, ⟨?_, ?_, ?_, ?_, ?_, ?_⟩, ?_, ?_⟩
                · rw [List.length_append, valsZ_snoc, ← HT2.out]
                  exact hown3
                · intro y hy
                  rcases List.mem_append.1 hy with hy | hy
                  · exact HXX.out.rng y hy
                  · rw [List.mem_singleton.1 hy]; omega
                · exact (HXX.out.nums.set x mark).ext (by rw [World.size_setCell]; omega) hgl hz hbb
                · exact (HXX.out.only.set x _).below hbb
                · intro y
                  by_cases e : y = x
                  · subst e; exact .inr (upd_same _ _ _)
                  · rw [upd_other _ _ e]; exact HXX.out.stay y
                · have h7 := HXX.out.few
                  have h8 := HUN.out
                  rw [mkF_upd, List.length_append, List.length_singleton]
                  omega
                · rw [mkF_upd]; exact HPU
                · have h8 := HUN.out
                  rw [mkF_upd, List.length_append, List.length_singleton]
                  omega
              case measure => simp [intOf]; omega
          · have HSK := Lib.hid (hRI.out.skip fun h => absurd (by rw [HX.out] at h; exact h) h1)
            go_wp2_with fail
            go_roundw
            case rel => exact ⟨T2, f2, q + 1, by go_num, by omega, HXX.out, HSK, hmm⟩
            case measure => simp [intOf]; omega
        · obtain rfl : q = l.length := by omega
          obtain ⟨A5, c5, hv5, _, _, _⟩ := nums_own hX.own (fun x hx => by have := hX.rng x hx; unfold Fits; omega)
          subst hv5
          have HXX := Lib.hid hX
          have HDN := Lib.hid (show Rch ls fr least (mkF f mark) (mkF f2 mark) T2 from by have h5 := hRI.out; rw [HEQ.out] at h5; exact h5.done)
          clear hX hRI
          go_wp2_with fail
          go_roundw
          case rel => exact ⟨T2, f2, HXX.out, HDN⟩
          case measure =>
            rw [unmW_eq HXX.out.nums, HUW.out]
            show T2.length + _ < (k + 1) + m0
            omega
end Go.Proofs.Ytgdkgoiagjjccaa
