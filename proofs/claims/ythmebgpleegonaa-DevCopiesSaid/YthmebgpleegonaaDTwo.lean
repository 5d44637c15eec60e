/- Two sets beside each other. -/
import Derived.Test.YthmebgpleegonaaDPlays
import Derived.Test.YthmebgpleegonaaDCopy
import Derived.Test.YthmebgpleegonaaDNil
namespace Go.Proofs.Ythmebgpleegonaa
set_option maxRecDepth 100000
open Go.RowKit

theorem eDown_ev : eDown = eV 3 := rfl
theorem is_down (w : World) : Calls Try.prog 28 #[.iface 71 (.int .i64 3), .int .i64 3] w fun e w' => e = .returned (.bool true) ∧ w = w' := by
  have h := num_ev 3 w
  have h' : Calls Try.prog 12 #[.iface 71 (.int .i64 3)] w fun e w' => e = .returned (.int .i64 3) ∧ w = w' := h
  have HN := Lib.hid h'
  clear h h'
  go_enter Try.func28, Try.ntmps28
  go_wp2_with fail
  refine Calls.mono HN.out ?_
  rintro e w1 ⟨rfl, rfl⟩
  go_wp2_with fail
  go_ret
  exact ⟨rfl, rfl⟩
/-- A block of another kind is none of a set's. -/
theorem St.minus {w : World} {F : Nat → Prop} {g z : Nat} {p : Pw} {ds : List Dk} {K : Nat} {c : Array Value} {t : TypeId} (h : St w F g p ds K) (hz : w.heap[z]? = some (.cells c t (0, 0))) (h1 : t ≠ 77) (h2 : t ≠ 81) (h3 : t ≠ 99) : St w (fun k => F k ∧ k ≠ z) g p ds K := by
  obtain ⟨v, L, h5, h6⟩ := h
  refine ⟨v, L, ⟨⟨h5.Fg, fun e => ?_⟩, fun k e => h5.Flt k e.1, h5.block, h5.own, fun k e => ⟨h5.Fv k e, fun e2 => ?_⟩, fun j hj => ?_, h5.apart⟩, h6⟩
  · have h7 := h5.block
    rw [e, hz] at h7
    injection h7 with h7
    injection h7 with _ a
    exact h1 a
  · exact type_ne h5.own hz (Ne.symm h2) (by rw [← e2]; exact e)
  · have hd := h5.each j hj
    exact ⟨hd.map, ⟨hd.Fm, map_ne hd.map hz⟩, hd.waits, fun k e => ⟨hd.Fw k e, fun e2 => type_ne hd.waits hz (Ne.symm h3) (by rw [← e2]; exact e)⟩⟩
theorem PMid.act2 {w wr : World} {z g q M : Nat} {F X : Nat → Prop} {p : Pw} {ds : List Dk} {A : Option Addr} {c : Nat} {left : Int} (h : PMid w wr z g q M F X p ds A c left) (hM : M ≤ 1000) (hq : q ≤ 1000000) (o : Opx) (ho : OpOk w o) (hm : o.m ≤ 60) :
    ∃ p' ds', Calls Try.prog 14 #[.pointer (some ⟨g, 0, none⟩), .agg #[.slice A M c, .int .i64 (p.steps : Int), .int .i64 left, .bool p.ia, .bool p.gone], .agg #[.int .i64 o.kind, .int .i64 o.dev, .int .i64 o.n, .int .u8 (o.b : Int), .slice o.A o.m o.c]] wr fun e w' =>
      ∃ F' X' A' c' left', e = .returned (.tuple #[.agg #[.slice A' M c', .int .i64 (p'.steps : Int), .int .i64 left', .bool p'.ia, .bool p'.gone], .bool true]) ∧ PMid w w' z g (q + 1) M F' X' p' ds' A' c' left' ∧ Chg wr w' F F' ∧ (∀ k, X' k → X k ∨ wr.heap.size ≤ k) := by
  obtain ⟨hb, hn, kl, hkp, hkl⟩ := ho
  obtain ⟨p', ds', h1, h2, h3, h4, h5⟩ := do_any h.st h.rs h.lf h.xf h.ok (by rw [h.len]; exact hM) hq h.ps h.pa o hb hn kl (fun W F1 hc => RowAt.below hkp ((h.ch.trans hc).below (Nat.le_refl _) (fun k e => e.elim))) hkl (by omega)
  have hl : ds'.length = M := by
    have := congrArg List.length h5
    rw [List.length_map, List.length_map, h.len] at this
    exact this
  unfold rsV at h1
  rw [h.len] at h1
  refine ⟨p', ds', Calls.mono h1 ?_⟩
  rintro e w' ⟨F', X', A', c', left', he, s', r', l', xf', xn', ch'⟩
  have hnew : ∀ u, ¬ F u → ¬ X u → u < wr.heap.size → ¬ F' u ∧ ¬ X' u := fun u e1 e2 e3 => ⟨fun e4 => by
    rcases ch'.new u e4 with e5 | e5
    · exact e1 e5
    · omega, fun e4 => by
    rcases xn' u e4 with e5 | e5
    · exact e2 e5
    · omega⟩
  obtain ⟨z1, z2⟩ := hnew z h.fz h.xz h.zl
  unfold rsV at he
  rw [hl] at he
  exact ⟨F', X', A', c', left', he, ⟨s', r', l', xf', Nat.lt_of_lt_of_le h.zl ch'.size, h.zw, z1, z2, h2, hl, h3, h4, h.ch.trans ch'⟩, ch', xn'⟩
theorem PMid.stay {w wr wq : World} {z g q M : Nat} {F X G G' : Nat → Prop} {p : Pw} {ds : List Dk} {A : Option Addr} {c : Nat} {left : Int} (h : PMid w wr z g q M F X p ds A c left) (hc : Chg wr wq G G') (h1 : ∀ k, F k → ¬ G k) (h2 : ∀ k, X k → ¬ G k) (hG : ∀ k, G k → w.heap.size ≤ k) : PMid w wq z g q M F X p ds A c left :=
  ⟨h.st.stay hc h1, h.rs.chg hc h2, h.lf, h.xf, Nat.lt_of_lt_of_le h.zl hc.size, h.zw, h.fz, h.xz, h.ok, h.len, h.ps, h.pa, h.ch.beside hc hG⟩
theorem PMid.Flow {w wr : World} {z g q M : Nat} {F X : Nat → Prop} {p : Pw} {ds : List Dk} {A : Option Addr} {c : Nat} {left : Int} (h : PMid w wr z g q M F X p ds A c left) : ∀ k, F k → w.heap.size ≤ k := fun k e => by
  rcases h.ch.new k e with e2 | e2
  · exact e2.elim
  · exact e2
/-- A set beside another one: the first one's box, its parts; what the second one's acts leave. -/
structure Side (w wr : World) (z g q : Nat) (F X : Nat → Prop) (p : Pw) (ds : List Dk) (A : Option Addr) (c : Nat) (left : Int) (F2 X2 : Nat → Prop) (z2 : Nat) : Prop where
  mid : PMid w wr z g q 2 F X p ds A c left
  box : wr.heap[z]? = some (.cells #[.slice A 2 c, .int .i64 (p.steps : Int), .int .i64 left, .bool p.ia, .bool p.gone] 33 (0, 0))
  ff : ∀ k, F k → ¬ F2 k
  xf : ∀ k, X k → ¬ F2 k
  zf : ¬ F2 z
  zx : ¬ X2 z
  zz : z ≠ z2
  f2 : ¬ F z2
  x2 : ¬ X z2
section
variable {w wr wq : World} {z g q z2 : Nat} {F X F2 X2 F3 X3 : Nat → Prop} {p : Pw} {ds : List Dk} {A : Option Addr} {c : Nat} {left : Int}
theorem Side.below (h : Side w wr z g q F X p ds A c left F2 X2 z2) (hb : Below wr.heap.size wr wq) : Side w wq z g q F X p ds A c left F2 X2 z2 :=
  ⟨h.mid.below hb, (hb.block z h.mid.zl).trans h.box, h.ff, h.xf, h.zf, h.zx, h.zz, h.f2, h.x2⟩
theorem Side.act (h : Side w wr z g q F X p ds A c left F2 X2 z2) (hc : Chg wr wq F2 F3) (hx : ∀ k, X3 k → X2 k ∨ wr.heap.size ≤ k) (hF : ∀ k, F2 k → w.heap.size ≤ k) : Side w wq z g q F X p ds A c left F3 X3 z2 :=
  ⟨h.mid.stay hc h.ff h.xf hF, (hc.block z h.mid.zl h.zf).trans h.box, hc.apart h.mid.st.lt h.ff, hc.apart h.mid.rs.lt h.xf, fun e => by
    rcases hc.new z e with e2 | e2
    · exact h.zf e2
    · have := h.mid.zl; omega, fun e => by
    rcases hx z e with e2 | e2
    · exact h.zx e2
    · have := h.mid.zl; omega, h.zz, h.f2, h.x2⟩
theorem Side.set (h : Side w wr z g q F X p ds A c left F2 X2 z2) (hz : w.heap.size ≤ z2) (v0 v1 v2 v3 v4 : Value) :
    Side w (((((wr.setCell ⟨z2, 0, none⟩ v0).setCell ⟨z2, 1, none⟩ v1).setCell ⟨z2, 2, none⟩ v2).setCell ⟨z2, 3, none⟩ v3).setCell ⟨z2, 4, none⟩ v4) z g q F X p ds A c left F2 X2 z2 := by
  have hc := set5_chg wr z2 v0 v1 v2 v3 v4
  exact ⟨h.mid.set z2 h.f2 h.x2 hz v0 v1 v2 v3 v4, (hc.block z h.mid.zl (fun e => h.zz e)).trans h.box, h.ff, h.xf, h.zf, h.zx, h.zz, h.f2, h.x2⟩
end
end Go.Proofs.Ythmebgpleegonaa
