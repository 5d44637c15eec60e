/- SlKeepM, SlKeep, DAloneM: put together. -/
import Derived.Test.YtjmjehhmkjhalaaQk02
import Derived.Test.YtjmjehhmkjhalaaQb44
import Derived.Test.YtjmjehhmkjhalaaQb17
import Derived.Test.YtjmjehhmkjhalaaQb42
import Derived.Test.YtjmjehhmkjhalaaQb22
/- SlotKeeps, pure: what a crash leaves of two sectors. -/
namespace Go.Proofs.Ytjmjehhmkjhalaa
set_option maxRecDepth 100000
open Go.RowKit

/-- The stamp at a sector's end. -/
def endS (s : List Nat) : Nat := ofLE (s.drop 58)
theorem openM_end {f : Nat → Int} {l : List Nat} {m : Mf} (h : openM f l = some m) : m.gen = (endS l : Int) := by
  unfold openM at h
  cases ho : openN l with
  | none => rw [ho] at h; cases h
  | some r =>
    obtain ⟨st, kd, d⟩ := r
    rw [ho] at h
    dsimp only at h
    split at h
    · injection h with h
      have e : endS l = st := by
        unfold openN at ho
        dsimp only at ho
        split at ho
        · rename_i q
          injection ho with ho
          injection ho with h1 _
          unfold endS
          rw [q.2.1, h1]
        · cases ho
      rw [← h, e]
      rfl
    · cases h
theorem secM_end {m : Mf} (g : GoodM m) : (endS (secM m) : Int) = m.gen := (openM_end (openM_sec conv_cI g)).symm
theorem mix_le58 (o x : List Nat) (k : Nat) (hx : x.length = 64) (hk : k ≤ 58) : (mixL o x k).drop 58 = o.drop 58 := by
  unfold mixL
  rw [List.drop_append, List.drop_eq_nil_of_le (by rw [List.length_take]; omega), List.nil_append, List.length_take, Nat.min_eq_left (by omega), List.drop_drop]
  congr 1
  omega
theorem mix_ge (o x : List Nat) (k : Nat) (ho : o.length = 64) (hx : x.length = 64) (hk : 64 ≤ k) : mixL o x k = x := by
  unfold mixL
  rw [List.take_of_length_le (by omega), List.drop_eq_nil_of_le (by omega), List.append_nil]
/-- A sector that is written over in part is the new one, or its end tells an older stamp. -/
theorem mix_end (o x : List Nat) (k : Nat) (ho : o.length = 64) (hx : x.length = 64) (hos : ∀ y ∈ o, y < 256) (hxs : ∀ y ∈ x, y < 256) (h : endS o < endS x) : mixL o x k = x ∨ endS (mixL o x k) < endS x := by
  by_cases h58 : k ≤ 58
  · right
    unfold endS at h ⊢
    rw [mix_le58 o x k hx h58]
    exact h
  by_cases h64 : 64 ≤ k
  · exact .inl (mix_ge o x k ho hx h64)
  obtain ⟨j, rfl⟩ : ∃ j, k = 58 + j := ⟨k - 58, by omega⟩
  have e1 : (mixL o x (58 + j)).drop 58 = (x.drop 58).take j ++ (o.drop 58).drop j := by
    unfold mixL
    rw [List.drop_append, List.length_take, Nat.min_eq_left (by omega), List.drop_take, List.drop_drop, List.drop_drop]
    congr 2 <;> omega
  have ex : x.drop 58 = (x.drop 58).take j ++ (x.drop 58).drop j := (List.take_append_drop j _).symm
  have eo : o.drop 58 = (o.drop 58).take j ++ (o.drop 58).drop j := (List.take_append_drop j _).symm
  have lx : ((x.drop 58).take j).length = j := by rw [List.length_take, List.length_drop]; omega
  have lo : ((o.drop 58).take j).length = j := by rw [List.length_take, List.length_drop]; omega
  have sx : ∀ y ∈ (x.drop 58).take j, y < 256 := fun y hy => hxs y (List.mem_of_mem_drop (List.mem_of_mem_take hy))
  have so : ∀ y ∈ (o.drop 58).take j, y < 256 := fun y hy => hos y (List.mem_of_mem_drop (List.mem_of_mem_take hy))
  have bx := ofLE_lt _ sx
  have bo := ofLE_lt _ so
  rw [lx] at bx
  rw [lo] at bo
  have vx : endS x = ofLE ((x.drop 58).take j) + 256 ^ j * ofLE ((x.drop 58).drop j) := by
    unfold endS
    conv => lhs; rw [ex]
    rw [ofLE_append, lx]
  have vo : endS o = ofLE ((o.drop 58).take j) + 256 ^ j * ofLE ((o.drop 58).drop j) := by
    unfold endS
    conv => lhs; rw [eo]
    rw [ofLE_append, lo]
  have vm : endS (mixL o x (58 + j)) = ofLE ((x.drop 58).take j) + 256 ^ j * ofLE ((o.drop 58).drop j) := by
    unfold endS
    rw [e1, ofLE_append, lx]
  obtain ⟨P, hP⟩ : ∃ P, P = 256 ^ j := ⟨_, rfl⟩
  obtain ⟨u, hu⟩ : ∃ u, u = ofLE ((x.drop 58).drop j) := ⟨_, rfl⟩
  obtain ⟨v, hv⟩ : ∃ v, v = ofLE ((o.drop 58).drop j) := ⟨_, rfl⟩
  rw [← hP, ← hu] at vx
  rw [← hP, ← hv] at vo vm
  rw [← hP] at bx bo
  have huv : v ≤ u := by
    rcases Nat.lt_or_ge u v with q | q
    · exfalso
      have : P * u + P ≤ P * v := by
        calc P * u + P = P * (u + 1) := by rw [Nat.mul_add, Nat.mul_one]
          _ ≤ P * v := Nat.mul_le_mul_left _ q
      omega
    · exact q
  rcases Nat.lt_or_ge v u with q | q
  · right
    have : P * v + P ≤ P * u := by
      calc P * v + P = P * (v + 1) := by rw [Nat.mul_add, Nat.mul_one]
        _ ≤ P * u := Nat.mul_le_mul_left _ q
    have hp : 0 < P := by rw [hP]; exact Nat.pos_of_ne_zero (by simp)
    omega
  · left
    have e : u = v := by omega
    have el : (x.drop 58).drop j = (o.drop 58).drop j := ofLE_inj _ _ (by simp [List.length_drop, hx, ho]) (fun y hy => hxs y (List.mem_of_mem_drop (List.mem_of_mem_drop hy))) (fun y hy => hos y (List.mem_of_mem_drop (List.mem_of_mem_drop hy))) (by rw [← hu, ← hv, e])
    unfold mixL
    rw [List.drop_drop, List.drop_drop] at el
    rw [← el, List.take_append_drop]
/-- What stands between two rounds: m counts, the other sector tells no newer stamp. -/
structure KI (f : Int → Sx) (m : Mf) : Prop where
  good : GoodM m
  here : openM cI (f (m.gen % 2)).l = some m
  other : (endS (f (1 - m.gen % 2)).l : Int) ≤ m.gen
theorem KI.next {f : Int → Sx} {m m' : Mf} (h : KI f m) (g : GoodM m') (hg : m'.gen = m.gen + 1) : KI (upd f (m'.gen % 2) (secX m' g)) m' := by
  have hp := h.good.g1
  refine ⟨g, ?_, ?_⟩
  · unfold upd
    rw [if_pos rfl]
    exact openM_sec conv_cI g
  · unfold upd
    rw [if_neg (by omega), show 1 - m'.gen % 2 = m.gen % 2 by omega]
    have := openM_end h.here
    omega
/-- Behind a write that was kept in part. -/
theorem KI.torn {f : Int → Sx} {m m' : Mf} (h : KI f m) (g : GoodM m') (hg : m'.gen = m.gen + 1) (k : Nat) :
    KI (upd f (m'.gen % 2) (mixS (f (m'.gen % 2)) (secX m' g) k)) m ∨ KI (upd f (m'.gen % 2) (mixS (f (m'.gen % 2)) (secX m' g) k)) m' := by
  have hp := h.good.g1
  have e1 : 1 - m.gen % 2 = m'.gen % 2 := by omega
  have ho := h.other
  rw [e1] at ho
  have hx := secM_end g
  rcases mix_end (f (m'.gen % 2)).l (secX m' g).l k (f (m'.gen % 2)).len (secX m' g).len (f (m'.gen % 2)).small (secX m' g).small (by show endS _ < endS (secM m'); omega) with e | e
  · right
    have e2 : mixS (f (m'.gen % 2)) (secX m' g) k = secX m' g := Sx.same e
    rw [e2]
    exact h.next g hg
  · left
    refine ⟨h.good, ?_, ?_⟩
    · unfold upd
      rw [if_neg (by omega)]
      exact h.here
    · unfold upd
      rw [e1, if_pos rfl]
      have e3 : endS (mixS (f (m'.gen % 2)) (secX m' g) k).l < endS (secM m') := e
      omega
/-- What is loaded. -/
theorem KI.load {f : Int → Sx} {m : Mf} (h : KI f m) (p : Pw) (hp : p.gone = false) : loadV p [⟨3, f, []⟩] = (m, .nilIface) := by
  have hg := h.good.g1
  have r : ∀ i : Int, 0 ≤ i → i < 2 → (readV p [⟨3, f, []⟩] 0 i).1 = f i := fun i h0 h1 => by
    unfold readV
    rw [if_neg (by rw [hp]; decide), if_neg (by
      unfold hasB
      simp
      omega)]
    rfl
  have no : ∀ b : Mf, b.gen = m.gen ∨ b = mf0 → pickM b (1 - m.gen % 2) (f (1 - m.gen % 2)) = b ∨ (b = mf0 ∧ (pickM b (1 - m.gen % 2) (f (1 - m.gen % 2))).gen < m.gen) := fun b hb => by
    unfold pickM
    cases ho : openM cI (f (1 - m.gen % 2)).l with
    | none => exact .inl rfl
    | some q =>
      dsimp only
      have h1 := openM_end ho
      have h2 := h.other
      split
      · rename_i hc
        rcases hb with hb | hb
        · omega
        · exact .inr ⟨hb, by omega⟩
      · exact .inl rfl
  have yes : ∀ b : Mf, b.gen < m.gen → pickM b (m.gen % 2) (f (m.gen % 2)) = m := fun b hb => by
    unfold pickM
    rw [h.here]
    exact if_pos ⟨rfl, hb⟩
  have hb2 : bestN p [⟨3, f, []⟩] 2 = m := by
    show pickM (pickM mf0 ((0 : Nat) : Int) (readV p [⟨3, f, []⟩] 0 ((0 : Nat) : Int)).1) ((1 : Nat) : Int) (readV p [⟨3, f, []⟩] 0 ((1 : Nat) : Int)).1 = m
    rw [r ((0 : Nat) : Int) (by decide) (by decide), r ((1 : Nat) : Int) (by decide) (by decide)]
    have hpar : m.gen % 2 = 0 ∨ m.gen % 2 = 1 := by omega
    rcases hpar with e | e
    · have y := yes mf0 (by show (0 : Int) < m.gen; omega)
      have n := no m (.inl rfl)
      rw [e] at y n
      rw [show (((0 : Nat) : Int)) = 0 from rfl, y]
      rcases n with n | ⟨_, n⟩
      · exact n
      · rw [show ((1 : Nat) : Int) = 1 - 0 by decide]
        rcases no m (.inl rfl) with n2 | ⟨n2, _⟩
        · rw [e] at n2; exact n2
        · have hq := congrArg Mf.gen n2
          have h0 : mf0.gen = 0 := rfl
          omega
    · have n := no mf0 (.inr rfl)
      rw [e] at n
      rw [show (((0 : Nat) : Int)) = 1 - 1 from rfl, show (((1 : Nat) : Int)) = 1 from rfl]
      have y : ∀ b : Mf, b.gen < m.gen → pickM b 1 (f 1) = m := fun b hb => by have := yes b hb; rw [e] at this; exact this
      rcases n with n | ⟨_, n⟩
      · rw [n]
        exact y mf0 (by show (0 : Int) < m.gen; omega)
      · exact y _ n
  unfold loadV
  rw [if_neg (show ¬ sizeV [⟨3, f, []⟩] 0 < 2 from by show ¬ (3 < 2); decide), if_neg (by rw [hp]; decide), hb2, if_neg (by omega)]
end Go.Proofs.Ytjmjehhmkjhalaa

/- What is kept, as the program's: keeps. -/
namespace Go.Proofs.Ytjmjehhmkjhalaa
set_option maxRecDepth 100000
open Go.RowKit

theorem elemKp : ElemT Try.prog 82 201 3 24 :=
  ⟨Try.underlying82, by kernel_rfl, by
    obtain ⟨i, hi, hz, h1, _⟩ := info_parts (show (Try.prog.info? 201).map (fun i => (i.zero, i.size, i.bytes)) = some (some (.agg #[.int .i64 0, .int .i64 0, .int .i64 0]), 3, 24) by kernel_rfl)
    exact ⟨i, _, hi, hz, rfl⟩, by decide⟩
set_option maxHeartbeats 4000000 in
theorem keeps15_any (A : Option Addr) (c : Nat) (l : List Kp) (w : World) (h : Kps w A l) (hl : l.length ≤ 1000000) :
    Calls Try.prog 60 #[.slice A l.length c] w fun e w' => ∃ A' c', e = .returned (.slice A' l.length c') ∧ Kps w' A' l ∧ (∀ a, A' = some a → w.heap.size ≤ a.block ∧ a.block < w'.heap.size) ∧ Below w.heap.size w w' := by
  obtain ⟨n, hn⟩ : ∃ n, n = l.length := ⟨_, rfl⟩
  have HN := Lib.hid hn
  have HH := Lib.hid h
  rw [← hn] at hl ⊢
  have HB0 := Lib.hid (((Below.refl w.heap.size w).alloc (Nat.le_refl _) (.cells #[] 201)))
  have HO0 := Lib.hid (own_empty w w.heap.size 201 3 201 rfl (Nat.le_refl _))
  clear h hn
  go_enter Try.func60, Try.ntmps60
  go_wp2_with fail
  go_loopw [3, 9] (fun v i wr => ∃ q : Nat, i = .int .i64 (q : Int) ∧ q ≤ n ∧ wr.ownsRow w.heap.size 201 3 v q (rowV Kp.vals (l.take q)) ∧ Below w.heap.size w wr) (fun _ i _ => n - (intOf i).toNat)
  case atStart => exact ⟨0, rfl, by omega, HO0.out, HB0.out⟩
  case round =>
    obtain ⟨q, rfl, hq, ho, hb⟩ := hrel
    obtain ⟨Av, cv, rfl, _, _, _⟩ := rdv_own ho
    have HO := Lib.hid ho
    have HB := Lib.hid hb
    by_cases hlt : q < n
    · have hql : q < l.length := by rw [← HN.out]; exact hlt
      obtain ⟨b, off, rfl, hc⟩ := Kps.cell (RowAt.below HH.out hb) (by omega)
      obtain ⟨c0, c1, c2⟩ := hc q hql
      obtain ⟨k, hk⟩ : ∃ k, k = l[q] := ⟨_, rfl⟩
      rw [← hk] at c0 c1 c2
      have HK := Lib.hid hk
      have hs := hb.size
      clear hc hk ho hb
      have hrd : Rdv ((wr.alloc (.cells #[.int .i64 k.dev, .int .i64 k.n, .int .i64 k.tear] 200)).alloc (.cells #[.int .i64 k.dev, .int .i64 k.n, .int .i64 k.tear] 201)) (some ⟨wr.heap.size + 1, 0, none⟩) 1 3 k.vals := ⟨rfl, fun _ => ⟨wr.heap.size + 1, 0, rfl, fun r u hr => by
        have h1 := heap_alloc_new (wr.alloc (.cells #[.int .i64 k.dev, .int .i64 k.n, .int .i64 k.tear] 200)) (.cells #[.int .i64 k.dev, .int .i64 k.n, .int .i64 k.tear] 201)
        rw [World.size_alloc] at h1
        rw [Nat.zero_add, cell_of_row _ _ r _ _ (0, 0) h1]
        simpa [Kp.vals] using hr⟩⟩
      have HRD := Lib.hid hrd
      have hown : (((wr.alloc (.cells #[.int .i64 k.dev, .int .i64 k.n, .int .i64 k.tear] 200)).alloc (.cells #[.int .i64 k.dev, .int .i64 k.n, .int .i64 k.tear] 201))).ownsRow w.heap.size 201 3 (.slice Av q cv) q (rowV Kp.vals (l.take q)) := (HO.out.alloc _).alloc _
      have HOWN := Lib.hid hown
      have HBB := Lib.hid ((HB.out.alloc hs (.cells #[.int .i64 k.dev, .int .i64 k.n, .int .i64 k.tear] 200)).alloc (by simp; omega) (.cells #[.int .i64 k.dev, .int .i64 k.n, .int .i64 k.tear] 201))
      have HSZ := Lib.hid (show w.heap.size ≤ ((wr.alloc (.cells #[.int .i64 k.dev, .int .i64 k.n, .int .i64 k.tear] 200)).alloc (.cells #[.int .i64 k.dev, .int .i64 k.n, .int .i64 k.tear] 201)).heap.size by simp; omega)
      clear hrd hown
      go_wp2_with (refine wpList_append_rowv elemKp rfl (.tmp 13) (.tmp 15) rfl w.heap.size (.slice Av q cv) q (rowV Kp.vals (l.take q)) rfl HOWN.out (some ⟨wr.heap.size + 1, 0, none⟩) 1 1 k.vals rfl HRD.out (fun u hu => by unfold Kp.vals at hu; simp only [List.mem_cons, List.not_mem_nil, or_false] at hu; rcases hu with rfl | rfl | rfl <;> rfl) (fun h => by cases h) (by unfold maxLen; omega) (by omega) HSZ.out ?_; intro v6 w6 hown6 hg6 _; have HO6 := Lib.hid hown6; have HB6 := Lib.hid (own_grown_below HOWN.out hg6 HBB.out); clear hown6 hg6)
      go_roundw
      case rel =>
        refine ⟨q + 1, by go_num, by omega, ?_, HB6.out⟩
        have := HO6.out
        rw [List.take_succ_eq_append_getElem hql, rowV_append, ← HK.out]
        have e : rowV Kp.vals [k] = k.vals := by simp [rowV]
        rw [e]
        exact this
      case measure => simp [intOf]; omega
    · obtain rfl : q = n := by omega
      clear ho hb
      go_wp2_with fail
      go_ret
      refine ⟨Av, cv, rfl, ?_, fun a e => ?_, HB.out⟩
      · have h1 := HO.out
        rw [HN.out, List.take_length] at h1
        refine ⟨rfl, h1.1, fun hn => ?_⟩
        obtain ⟨b', c', e2, _⟩ := own_some h1 hn
        injection e2 with e2
        subst e2
        exact ⟨b', 0, rfl, fun r u hr => by
          have := h1.cells (g := b') rfl r u hr
          rwa [addr_plus] at this⟩
      · subst e
        rcases HO.out.2 with ⟨h1, _⟩ | ⟨gg, cap, cur, h1, h2, _⟩
        · cases h1
        · injection h1 with h1
          injection h1 with h1
          subst h1
          exact ⟨h2, (HO.out.lt _ rfl).2⟩
end Go.Proofs.Ytjmjehhmkjhalaa

/- Two sets, and what an act on one device leaves of the others. -/
namespace Go.Proofs.Ytjmjehhmkjhalaa
set_option maxRecDepth 100000
open Go.RowKit

/-- A set stands where what changes is not its own. -/
theorem St.keep {w w' : World} {F G G' : Nat → Prop} {g : Nat} {p : Pw} {ds : List Dk} {K : Nat} (h : St w F g p ds K) (hc : Chg w w' G G') (hd : ∀ k, F k → ¬ G k) : St w' F g p ds K := by
  obtain ⟨v, L, h1, h2⟩ := h
  exact ⟨v, L, h1.keep hc.size fun k hk hlt => hc.block k hlt (hd k hk), h2⟩
/-- Blocks of two sets stay apart where one of them changes. -/
theorem Chg.apart {w w' : World} {F G G' : Nat → Prop} (hc : Chg w w' G G') (hlt : ∀ k, F k → k < w.heap.size) (hd : ∀ k, F k → ¬ G k) : ∀ k, F k → ¬ G' k := fun k hk hg => by
  rcases hc.new k hg with e | e
  · exact hd k hk e
  · have := hlt k hk; omega
/-- The power is on and not armed. -/
def On (p : Pw) : Prop := p.ia = false ∧ p.gone = false
theorem On.step {p : Pw} (h : On p) : (stepP p).1 = true ∧ On (stepP p).2 ∧ (stepP p).2.steps = p.steps + 1 ∧ (stepP p).2.armed = p.armed := by
  obtain ⟨st, ar, ia, gn⟩ := p
  obtain ⟨h1, h2⟩ := h
  simp only at h1 h2
  subst h1 h2
  exact ⟨rfl, ⟨rfl, rfl⟩, rfl, rfl⟩
/-- An act and the two sets' places, in memory. -/
def Bx (w : World) (z : Nat) (o : Opx) (g g2 : Nat) : Prop := w.cell? ⟨z, 0, none⟩ = some (.int .i64 o.kind) ∧ w.cell? ⟨z, 1, none⟩ = some (.int .i64 o.dev) ∧ w.cell? ⟨z, 2, none⟩ = some (.int .i64 o.n) ∧ w.cell? ⟨z, 3, none⟩ = some (.int .u8 (o.b : Int)) ∧ w.cell? ⟨z + 1, 0, none⟩ = some (.pointer (some ⟨g, 0, none⟩)) ∧ w.cell? ⟨z + 1, 1, none⟩ = some (.pointer (some ⟨g2, 0, none⟩))
theorem Bx.later {w w' : World} {z : Nat} {o : Opx} {g g2 : Nat} {F F' : Nat → Prop} (h : Bx w z o g g2) (hc : Chg w w' F F') (hz : ∀ k, F k → k < z) : Bx w' z o g g2 := by
  obtain ⟨h0, h1, h2, h3, h4, h5⟩ := h
  have hl := World.block_lt_of_cell? _ _ h0
  have hl2 := World.block_lt_of_cell? _ _ h4
  have n0 : ¬ F z := fun e => by have := hz _ e; omega
  have n1 : ¬ F (z + 1) := fun e => by have := hz _ e; omega
  have hl : z < w.heap.size := hl
  have hl2 : z + 1 < w.heap.size := hl2
  exact ⟨(hc.cell' (p := ⟨z, 0, none⟩) hl n0).trans h0, (hc.cell' (p := ⟨z, 1, none⟩) hl n0).trans h1, (hc.cell' (p := ⟨z, 2, none⟩) hl n0).trans h2, (hc.cell' (p := ⟨z, 3, none⟩) hl n0).trans h3, (hc.cell' (p := ⟨z + 1, 0, none⟩) hl2 n1).trans h4, (hc.cell' (p := ⟨z + 1, 1, none⟩) hl2 n1).trans h5⟩
end Go.Proofs.Ytjmjehhmkjhalaa
