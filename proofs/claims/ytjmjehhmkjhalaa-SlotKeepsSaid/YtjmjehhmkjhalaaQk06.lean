/- SlKeepI: put together. -/
import Derived.Test.YtjmjehhmkjhalaaQk02
import Derived.Test.YtjmjehhmkjhalaaQk05
import Derived.Test.YtjmjehhmkjhalaaQk04
import Derived.Test.YtjmjehhmkjhalaaQb43
/- SlotKeeps: what a save leaves, what stands in a round. -/
namespace Go.Proofs.Ytjmjehhmkjhalaa
set_option maxRecDepth 100000
open Go.RowKit

theorem slsave_ok {w : World} {F : Nat → Prop} {g : Nat} {p : Pw} {ds : List Dk} {K : Nat} (h : St w F g p ds K) {m : Mf} (hg : GoodM m) (A : Option Addr) (c : Nat) (hz : Zs w A m.heads) (hl : ds.length ≤ 1000) (hK : K ≤ 1000000) (hps : p.steps ≤ 100000000) (ha : p.armed ≤ 9223372036854775807) :
    Calls Try.prog 58 #[.pointer (some ⟨g, 0, none⟩), .agg (mfC m A c)] w fun e w' => e = .returned (saveG p ds (m.gen % 2) (secX m hg)).1 ∧ ∃ F', St w' F' g (saveG p ds (m.gen % 2) (secX m hg)).2.1 (saveG p ds (m.gen % 2) (secX m hg)).2.2 (K + 1) ∧ Chg w w' F F' := by
  obtain ⟨gn, e, b, a, l, hs, rfl⟩ := mf_nat hg
  have h2 := slsave_nat h gn e b a l hs A c hz hg hl hK hps ha
  unfold mfC
  rw [show (natM gn e b a l hs).heads.length = hs.length by simp [natM], show (natM gn e b a l hs).gen % 2 = ((gn % 2 : Nat) : Int) by show (gn : Int) % 2 = _; omega]
  exact h2
theorem stepP_gone (p : Pw) (h : (stepP p).1 = true) : (stepP p).2.gone = false := by
  obtain ⟨s, a, ia, go⟩ := p
  cases go <;> cases ia <;> unfold stepP at h ⊢ <;> simp at h ⊢
  by_cases e : a = 0
  · simp [e] at h
  · simp [e]
/-- What a save comes to. -/
theorem save_cases (p : Pw) (f : Int → Sx) (i : Int) (x : Sx) :
    ((saveG p [⟨3, f, []⟩] i x).1 = .nilIface ∧ (saveG p [⟨3, f, []⟩] i x).2.2 = [⟨3, upd f i x, []⟩] ∧ (saveG p [⟨3, f, []⟩] i x).2.1.gone = false ∧ (saveG p [⟨3, f, []⟩] i x).2.1.steps ≤ p.steps + 2) ∨
    ((saveG p [⟨3, f, []⟩] i x).1 = eDown ∧ ((saveG p [⟨3, f, []⟩] i x).2.2 = [⟨3, f, []⟩] ∨ (saveG p [⟨3, f, []⟩] i x).2.2 = [⟨3, f, [⟨i, x⟩]⟩]) ∧ (saveG p [⟨3, f, []⟩] i x).2.1.steps ≤ p.steps + 2) := by
  have e1 : ¬ sizeV [(⟨3, f, []⟩ : Dk)] 0 < 2 := by show ¬ (3 < 2); decide
  have s1 := stepP_steps p
  have s2 := stepP_steps (stepP p).2
  unfold saveG
  rw [if_neg e1]
  by_cases h1 : (stepP p).1 = false
  · rw [if_pos h1]
    exact .inr ⟨rfl, .inl rfl, by show (stepP p).2.steps ≤ _; omega⟩
  rw [if_neg h1]
  have e2 : (setAt [(⟨3, f, []⟩ : Dk)] 0 fun e => e.more ⟨i, x⟩) = [⟨3, f, [⟨i, x⟩]⟩] := rfl
  rw [e2]
  have e3 : ¬ hasB [(⟨3, f, [⟨i, x⟩]⟩ : Dk)] 0 0 = false := by show ¬ (true = false); decide
  unfold flushM
  rw [if_neg e3]
  by_cases h2 : (stepP (stepP p).2).1 = false
  · rw [if_pos h2]
    exact .inr ⟨rfl, .inr rfl, by show (stepP (stepP p).2).2.steps ≤ _; omega⟩
  rw [if_neg h2]
  exact .inl ⟨rfl, rfl, stepP_gone _ (by cases q : (stepP (stepP p).2).1 <;> simp_all), by show (stepP (stepP p).2).2.steps ≤ _; omega⟩
/-- Whatever is kept of it, one of two counts behind a crash. -/
def Sound (ds : List Dk) (m m2 : Mf) : Prop := ∀ kl, ∃ f, crashM kl ds = [⟨3, f, []⟩] ∧ (KI f m2 ∨ (KI f m ∧ m.gen ≠ m2.gen))
theorem sound_one {f : Int → Sx} {m m2 : Mf} (h : KI f m2 ∨ (KI f m ∧ m.gen ≠ m2.gen)) : Sound [⟨3, f, []⟩] m m2 := fun _ => ⟨f, rfl, h⟩
theorem sound_torn {f : Int → Sx} {m m2 : Mf} (h : KI f m) (g : GoodM m2) (hg : m2.gen = m.gen + 1) : Sound [⟨3, f, [⟨m2.gen % 2, secX m2 g⟩]⟩] m m2 := fun kl => by
  by_cases hk : kfOf kl 0 0 = 0
  · refine ⟨f, ?_, .inr ⟨h, by omega⟩⟩
    show [(⟨3, if kfOf kl 0 0 = 0 then f else _, []⟩ : Dk)] = _
    rw [if_pos hk]
  · refine ⟨upd f (m2.gen % 2) (mixS (f (m2.gen % 2)) (secX m2 g) (kfOf kl 0 0)), ?_, ?_⟩
    · show [(⟨3, if kfOf kl 0 0 = 0 then f else upd f (m2.gen % 2) (mixS (f (m2.gen % 2)) (secX m2 g) (kfOf kl 0 0)), []⟩ : Dk)] = _
      rw [if_neg hk]
    · rcases h.torn g hg (kfOf kl 0 0) with e | e
      · exact .inr ⟨e, by omega⟩
      · exact .inl e
theorem KI.first {m : Mf} (g : GoodM m) : KI (upd (fun _ => Sx.zero) (m.gen % 2) (secX m g)) m := by
  have hp := g.g1
  refine ⟨g, ?_, ?_⟩
  · unfold upd
    rw [if_pos rfl]
    exact openM_sec conv_cI g
  · unfold upd
    rw [if_neg (by omega)]
    have e : endS Sx.zero.l = 0 := by decide
    show (endS Sx.zero.l : Int) ≤ m.gen
    omega
/-- Between two rounds. -/
structure LpI (w W : World) (g nb : Nat) (m : Mf) (A : Option Addr) (c q : Nat) : Prop where
  st : ∃ F p f, St W F g p [⟨3, f, []⟩] (q + 1) ∧ p.gone = false ∧ p.steps ≤ 2 * q + 2 ∧ p.armed ≤ 9223372036854775807 ∧ KI f m ∧ (∀ k, F k → w.heap.size ≤ k) ∧ ¬ F nb
  below : Below w.heap.size w W
  lo : w.heap.size ≤ nb
  blk : W.heap[nb]? = some (.cells (mfC m A c) 91 (0, 0))
  zs : Zs w A m.heads
  nil : A = none → c = 0
theorem LpI.good {w W : World} {g nb : Nat} {m : Mf} {A : Option Addr} {c q : Nat} (h : LpI w W g nb m A c q) : GoodM m := by
  obtain ⟨F, p, f, _, _, _, _, hk, _⟩ := h.st
  exact hk.good
/-- Inside a round: the act's block, the next one's. -/
structure KpM (w W : World) (F : Nat → Prop) (g : Nat) (p : Pw) (ds : List Dk) (K nb zo nx : Nat) (cn cx : Array Value) (o : O15) : Prop where
  st : St W F g p ds K
  below : Below w.heap.size w W
  low : ∀ k, F k → w.heap.size ≤ k
  lo : w.heap.size ≤ nb ∧ w.heap.size ≤ zo ∧ w.heap.size ≤ nx ∧ nb ≠ zo ∧ nb ≠ nx ∧ zo ≠ nx
  nbk : W.heap[nb]? = some (.cells cn 91 (0, 0))
  zok : W.heap[zo]? = some (.cells o.arr 108 (0, 0))
  nxk : W.heap[nx]? = some (.cells cx 91 (0, 0))
  fr : ¬ F nb ∧ ¬ F zo ∧ ¬ F nx
section
variable {w W W' : World} {F F' : Nat → Prop} {g : Nat} {p p' : Pw} {ds ds' : List Dk} {K K' nb zo nx : Nat} {cn cx : Array Value} {o : O15}
theorem KpM.act (h : KpM w W F g p ds K nb zo nx cn cx o) (hs : St W' F' g p' ds' K') (hc : Chg W W' F F') : KpM w W' F' g p' ds' K' nb zo nx cn cx o := by
  have l1 := (Array.getElem?_eq_some_iff.1 h.nbk).1
  have l2 := (Array.getElem?_eq_some_iff.1 h.zok).1
  have l3 := (Array.getElem?_eq_some_iff.1 h.nxk).1
  have hw := h.below.size
  have key : ∀ k, k < W.heap.size → ¬ F k → ¬ F' k := fun k hk hn hf => by
    rcases hc.new k hf with e | e
    · exact hn e
    · omega
  refine ⟨hs, ⟨hc.os.trans h.below.os, hc.tape.trans h.below.tape, hc.output.trans h.below.output, Nat.le_trans hw hc.size, fun k hk => (hc.block k (by omega) fun e => by have := h.low k e; omega).trans (h.below.block k hk)⟩, fun k hk => ?_, h.lo, (hc.block _ l1 h.fr.1).trans h.nbk, (hc.block _ l2 h.fr.2.1).trans h.zok, (hc.block _ l3 h.fr.2.2).trans h.nxk, key _ l1 h.fr.1, key _ l2 h.fr.2.1, key _ l3 h.fr.2.2⟩
  rcases hc.new k hk with e | e
  · exact h.low k e
  · omega
theorem KpM.later (h : KpM w W F g p ds K nb zo nx cn cx o) (hb : Below W.heap.size W W') : KpM w W' F g p ds K nb zo nx cn cx o := h.act (h.st.below hb) (Chg.of_below hb F)
/-- What counts now is turned. -/
theorem KpM.turn {a0 a1 a2 a3 a4 a5 : Value} (h : KpM w W F g p ds K nb zo nx #[a0, a1, a2, a3, a4, a5] cx o) (v0 v1 v2 v3 v4 v5 : Value) :
    KpM w ((((((W.setCell ⟨nb, 0, none⟩ v0).setCell ⟨nb, 1, none⟩ v1).setCell ⟨nb, 2, none⟩ v2).setCell ⟨nb, 3, none⟩ v3).setCell ⟨nb, 4, none⟩ v4).setCell ⟨nb, 5, none⟩ v5) F g p ds K nb zo nx #[v0, v1, v2, v3, v4, v5] cx o := by
  have l1 := (Array.getElem?_eq_some_iff.1 h.nbk).1
  obtain ⟨o1, o2, o3, o4, o5, o6⟩ := h.lo
  have hb : Below nb W ((((((W.setCell ⟨nb, 0, none⟩ v0).setCell ⟨nb, 1, none⟩ v1).setCell ⟨nb, 2, none⟩ v2).setCell ⟨nb, 3, none⟩ v3).setCell ⟨nb, 4, none⟩ v4).setCell ⟨nb, 5, none⟩ v5) := set6_below ((Below.refl W.heap.size W).mono (Nat.le_of_lt l1)) (Nat.le_refl _) _ _ _ _ _ _
  refine ⟨h.st.keep (G := fun k => k = nb) (G' := fun k => k = nb) ⟨hb.os, hb.tape, hb.output, hb.size, fun k _ hn => set6_other _ _ _ _ _ _ _ _ _ hn, fun k e => .inl e⟩ fun k hk e => h.fr.1 (e ▸ hk), set6_below h.below o1 _ _ _ _ _ _, h.low, h.lo, set6 _ _ _ _ _ _ _ _ _ _ _ _ _ _ _ h.nbk, (set6_other _ _ _ _ _ _ _ _ _ (fun e => o4 e.symm)).trans h.zok, (set6_other _ _ _ _ _ _ _ _ _ (fun e => o5 e.symm)).trans h.nxk, h.fr⟩
theorem KpM.lp (h : KpM w W F g p ds K nb zo nx cn cx o) {f : Int → Sx} {m : Mf} {A : Option Addr} {c q : Nat} (hd : ds = [⟨3, f, []⟩]) (hK : K ≤ q + 1) (hp : p.gone = false) (hs : p.steps ≤ 2 * q + 2) (ha : p.armed ≤ 9223372036854775807) (hk : KI f m) (hn : cn = mfC m A c) (hz : Zs w A m.heads) (hnil : A = none → c = 0) : LpI w W g nb m A c q := by
  subst hd
  subst hn
  exact ⟨⟨F, p, f, h.st.mono hK, hp, hs, ha, hk, h.low, h.fr.1⟩, h.below, h.lo.1, h.nbk, hz, hnil⟩
end
set_option maxHeartbeats 2000000 in
/-- Of two generations: not the same. -/
theorem same15_ne (m m2 : Mf) (A A2 : Option Addr) (c c2 : Nat) (w : World) (hne : m.gen ≠ m2.gen) :
    Calls Try.prog 53 #[.agg (mfC m A c), .agg (mfC m2 A2 c2)] w fun e w' => e = .returned (.bool false) ∧ Below w.heap.size w w' := by
  have q0 : (m.gen == m2.gen) = false := by simp [hne]
  unfold mfC
  have HB := Lib.hid (((Below.refl w.heap.size w).alloc (Nat.le_refl _) (.cells #[.int .i64 m.gen, .int .i64 m.epoch, .int .i64 m.base, .int .i64 m.area, .int .i64 m.len, .slice A m.heads.length c] 93)).alloc (by simp) (.cells #[.int .i64 m2.gen, .int .i64 m2.epoch, .int .i64 m2.base, .int .i64 m2.area, .int .i64 m2.len, .slice A2 m2.heads.length c2] 91))
  clear hne
  go_enter Try.func53, Try.ntmps53
  go_wp2_with fail
  go_ret
  exact ⟨rfl, HB.out⟩
end Go.Proofs.Ytjmjehhmkjhalaa
