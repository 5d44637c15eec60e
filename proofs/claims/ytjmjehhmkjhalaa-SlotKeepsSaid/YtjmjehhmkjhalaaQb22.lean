/- DOpen, DEq: put together. -/
import Derived.Test.YtjmjehhmkjhalaaQb21
import Derived.ProofKit
import Derived.OpenShut
import Derived.Deep.Slices
import Derived.Deep.Strs
import Derived.ShutString
import Derived.ChangeOld
import Derived.DeepKeys
import Derived.LaidEqlPtr
/- Acts, opened. -/
namespace Go.Proofs.Ytjmjehhmkjhalaa
set_option maxRecDepth 100000
open Go.ChangeShapes Go.WideShapes Go.ChangeAt Go.RowKit

theorem addr_add' (b off j : Nat) : (⟨b, off, none⟩ : Addr).add j = ⟨b, off + j, none⟩ := by
  unfold Addr.add
  by_cases h : j = 0
  · subst h; simp
  · simp [h]
theorem cells3 : Try.prog.cellsOf 3 = 1 := by kernel_rfl
theorem RowAt.of {α : Type} {f : α → List Value} {k : Nat} {W : World} {n : Nat} {l : List α} (hf : ∀ x, (f x).length = k) (hk : 0 < k) (hl : l.length = n) (b off : Nat) (hc : ∀ (i : Nat) (hi : i < l.length) (r : Nat) (u : Value), r < k → (f l[i])[r]? = some u → W.cell? ⟨b, off + i * k + r, none⟩ = some u) : RowAt f k W (some ⟨b, off, none⟩) n l := by
  have hlen : (rowV f l).length = n * k := by
    rw [← hl]
    clear hl hc
    induction l with
    | nil => simp [rowV]
    | cons a l ih =>
      have e : rowV f (a :: l) = f a ++ rowV f l := by simp [rowV]
      rw [e, List.length_append, ih, hf, List.length_cons, Nat.succ_mul, Nat.add_comm]
  refine ⟨hl, hlen, fun _ => ⟨b, off, rfl, fun j u hj => ?_⟩⟩
  have hjl : j < n * k := by rw [← hlen]; exact (List.getElem?_eq_some_iff.1 hj).1
  have h1 : j / k < l.length := by rw [hl]; exact Nat.div_lt_of_lt_mul (by rw [Nat.mul_comm]; exact hjl)
  have h2 : j % k < k := Nat.mod_lt _ hk
  have e : j / k * k + j % k = j := Nat.div_add_mod' j k
  have h3 := rowV_get f k hf l (j / k) h1 (j % k) h2
  rw [e, hj] at h3
  have h4 := hc (j / k) h1 (j % k) u h2 h3.symm
  rw [Nat.add_assoc, e] at h4
  exact h4
section
variable {H : Type} {enc : TypeId × Value → H} {W : World} {sp : Nat → Bool}
theorem open_rowat {α : Type} {f : α → List Value} {k : Nat} (p : α → Prop) (hf : ∀ x, (f x).length = k) (hk : 0 < k) {t e : TypeId} (hu : Try.prog.underlying t = some (.slice e)) (he : Try.prog.cellsOf e = k) (d : α)
    (ho : ∀ {fuel : Nat} {cs : List Value} {x : DataW H × List MemPlace}, DataW.trod enc Try.prog W 0 sp true fuel e cs = some x → ∃ q : α, cs = f q ∧ p q) {fuel : Nat} {v : Value} {x : DataW H × List MemPlace} (hin : DataW.trod enc Try.prog W 0 sp true fuel t [v] = some x) :
    ∃ A n c l, v = .slice A n c ∧ RowAt f k W A n l ∧ n ≤ 9223372036854775807 ∧ (A = none → c = 0) ∧ ∀ s ∈ l, p s := by
  rcases Go.Deep.open_slice hu hin with ⟨hcs, _⟩ | ⟨a, len, cap, m, k2, D, Pl, hcs, _, hl, hm, hmm, _, hx⟩
  · injection hcs with hcs
    subst hcs
    exact ⟨none, 0, 0, [], rfl, ⟨rfl, by simp [rowV], fun hn => absurd hn (by omega)⟩, by decide, fun _ => rfl, fun s hs => by simp at hs⟩
  · injection hcs with hcs
    subst hcs
    unfold maxLen at hm
    have hlm : len ≤ m := by rw [hmm]; split <;> omega
    have hall : ∀ j, ∃ q : α, j < len → W.cells? 0 (a.add (j * k)) k = some (f q) ∧ p q := by
      intro j
      by_cases hj : j < len
      · obtain ⟨cs', h1, h2⟩ := hx j (by omega)
        rw [he] at h1
        obtain ⟨q, rfl, hp⟩ := ho h2
        exact ⟨q, fun _ => ⟨h1, hp⟩⟩
      · exact ⟨d, fun h => absurd h hj⟩
    obtain ⟨F, hall⟩ := Classical.axiomOfChoice hall
    rcases Nat.eq_zero_or_pos len with h0 | h0
    · subst h0
      exact ⟨some a, 0, cap, [], rfl, ⟨rfl, by simp [rowV], fun hn => absurd hn (by omega)⟩, by decide, fun h => absurd h (by simp), fun s hs => by simp at hs⟩
    obtain ⟨b, off, spot⟩ := a
    obtain ⟨_, _, h0'⟩ := World.cells?_some (hall 0 h0).1
    have h00 := h0' 0 hk
    rw [List.getElem?_eq_getElem (by rw [hf]; exact hk)] at h00
    have hspot : spot = none := by simpa [Addr.add] using World.cell?_spot h00
    subst hspot
    refine ⟨_, len, cap, (List.range len).map F, rfl, RowAt.of hf hk (by simp) b off fun j hj r u hr hu => ?_, by omega, fun h => absurd h (by simp), fun s hs => ?_⟩
    · have hj' : j < len := by simpa using hj
      obtain ⟨_, _, h1⟩ := World.cells?_some (hall j hj').1
      have c0 := h1 r (by omega)
      simp only [addr_add'] at c0
      simp only [List.getElem_map, List.getElem_range] at hu
      rw [c0]
      simpa using hu
    · rw [List.mem_map] at hs
      obtain ⟨i, hi, rfl⟩ := hs
      exact (hall i (List.mem_range.1 hi)).2
end
end Go.Proofs.Ytjmjehhmkjhalaa

/- Sectors that are compared. -/
namespace Go.Proofs.Ytjmjehhmkjhalaa
set_option maxRecDepth 100000
open Go.RowKit

theorem vB_size (l : List Nat) : (valsB l).toArray.size = l.length := by simp [valsB]
theorem getD_small {l : List Nat} (hs : ∀ x ∈ l, x < 256) (i : Nat) : l.getD i 0 < 256 := by
  rw [List.getD_eq_getElem?_getD]
  cases h : l[i]? with
  | none => simp
  | some x => exact hs x (List.mem_of_getElem? h)

theorem mapM_some {α β : Type} (f : α → Option β) (g : α → β) : ∀ is : List α, (∀ i ∈ is, f i = some (g i)) → is.mapM f = some (is.map g)
  | [], _ => rfl
  | i :: is, h => by
    rw [List.mapM_cons, h i (List.mem_cons_self ..), mapM_some f g is (fun j hj => h j (List.mem_cons_of_mem _ hj))]
    rfl
theorem cells50 : Try.prog.cellsOf 75 = 64 := by kernel_rfl
theorem cells5' : Try.prog.cellsOf 5 = 1 := by kernel_rfl
theorem wf_u8 (x : Nat) (h : x < 256) : (Lit.int .u8 (x : Int)).wf = true := by
  have key : ∀ y : Fin 256, (Lit.int .u8 ((y.val : Nat) : Int)).wf = true := by decide +kernel
  exact key ⟨x, h⟩
def litsB (l : List Nat) : List Lit := l.map fun (x : Nat) => Lit.int .u8 (x : Int)
theorem keyLits_byte (x : Nat) (h : x < 256) : Try.prog.keyLits 1 5 [.int .u8 (x : Int)] = some [.int .u8 (x : Int)] := by
  unfold Program.keyLits
  rw [Try.underlying5]
  simp [wf_u8 x h]
theorem keyLits_sec (l : List Nat) (hl : l.length = 64) (hs : ∀ x ∈ l, x < 256) : Try.prog.keyLits 2 75 (valsB l) = some (litsB l) := by
  unfold Program.keyLits
  rw [Try.underlying75]
  dsimp only
  rw [if_pos (by rw [valsB_length, hl, cells50]), cells5']
  rw [mapM_some _ (fun i => [Lit.int .u8 ((l.getD i 0 : Nat) : Int)]) (List.range 64) (fun i hi => by
    have hi64 : i < 64 := List.mem_range.1 hi
    have e : ((valsB l).drop (i * 1)).take 1 = [.int .u8 ((l.getD i 0 : Nat) : Int)] := by
      rw [Nat.mul_one, List.drop_eq_getElem_cons (by rw [valsB_length]; omega)]
      simp [valsB, List.getD_eq_getElem?_getD, List.getElem?_eq_getElem (show i < l.length by omega)]
    rw [e]
    exact keyLits_byte _ (getD_small hs i))]
  have e2 : ((List.range 64).map fun i => [Lit.int .u8 ((l.getD i 0 : Nat) : Int)]).flatten = litsB l := by
    rw [← List.flatMap_def]
    have : ((List.range 64).flatMap fun i => [Lit.int .u8 ((l.getD i 0 : Nat) : Int)]) = (List.range 64).map fun i => Lit.int .u8 ((l.getD i 0 : Nat) : Int) := by
      induction List.range 64 with
      | nil => rfl
      | cons a t ih => rw [List.flatMap_cons, ih]; rfl
    rw [this]
    unfold litsB
    refine List.ext_getElem (by simp [hl]) fun i h1 h2 => ?_
    simp [List.getD_eq_getElem?_getD, List.getElem?_eq_getElem (show i < l.length by simpa using h2)]
  show some (List.flatten _) = _
  rw [e2]
theorem litsB_inj : ∀ {l m : List Nat}, litsB l = litsB m → l = m
  | [], [], _ => rfl
  | [], _ :: _, h => by simp [litsB] at h
  | _ :: _, [], h => by simp [litsB] at h
  | a :: l, b :: m, h => by
    simp only [litsB, List.map_cons, List.cons.injEq] at h
    obtain ⟨h1, h2⟩ := h
    injection h1 with _ h1
    rw [litsB_inj (l := l) (m := m) h2]
    congr 1
    omega
theorem run_equalIn_deep' (d : Nat) (w : World) (l m : List Nat) (hl : l.length = 64) (hm : m.length = 64) (hls : ∀ x ∈ l, x < 256) (hms : ∀ x ∈ m, x < 256) :
    (Op.equalIn (d + 2) 75 (.agg (valsB l).toArray) (.agg (valsB m).toArray)).run Try.prog w = .ok (decide (l = m)) w := by
  obtain ⟨r, hr, hiff⟩ := run_equalIn_deep (P := Try.prog) d 2 75 (by kernel_rfl) w 2 2 (.agg (valsB l).toArray) (.agg (valsB m).toArray) (litsB l) (litsB m)
    (by unfold Value.formed; dsimp only; rw [Try.underlying75]; dsimp only; rw [cells50, vB_size, hl]; rfl) (by unfold Value.formed; dsimp only; rw [Try.underlying75]; dsimp only; rw [cells50, vB_size, hm]; rfl) (keyLits_sec l hl hls) (keyLits_sec m hm hms)
  rw [hr]
  congr 1
  rw [Bool.eq_iff_iff, hiff, decide_eq_true_iff]
  exact ⟨litsB_inj, fun h => by rw [h]⟩
/-- Two sectors are compared. -/
theorem equalIn_sx (x y : Sx) (w : World) : (Op.equalIn 10000 75 x.val y.val).run Try.prog w = .ok (decide (x.l = y.l)) w := run_equalIn_deep' 9998 w x.l y.l x.len y.len x.small y.small
theorem neq_sx (x y : Sx) (w : World) : (binOp .neq 75 x.val y.val).run Try.prog w = .ok (.bool (!decide (x.l = y.l))) w := by
  unfold Sx.val
  rw [run_neq_struct]
  have h := equalIn_sx x y w
  unfold Sx.val at h
  rw [h]
  rfl
theorem guard_sx (o : BinOp) (a b : Operand) (x y : Sx) (w : World) : (eqGuard o 75 a b x.val y.val).run Try.prog w = .ok () w := by
  unfold Sx.val
  exact run_eqGuard_agg w o 75 a b _ _ Try.eqGuardType75
theorem St.Fg {w : World} {F : Nat → Prop} {g : Nat} {p : Pw} {ds : List Dk} {K : Nat} (h : St w F g p ds K) : F g := by
  obtain ⟨v, L, h1, _⟩ := h
  exact h1.Fg
/-- Two sets are told apart by where they lie. -/
theorem St.other {w : World} {F G : Nat → Prop} {g k : Nat} {p q : Pw} {ds dt : List Dk} {K M : Nat} (h : St w F g p ds K) (h2 : St w G k q dt M) (hd : ∀ x, F x → ¬ G x) : (binOp .eql 28 (.pointer (some ⟨g, 0, none⟩)) (.pointer (some ⟨k, 0, none⟩))).run Try.prog w = .ok (.bool false) w := by
  have n1 := h.Fg
  have n2 := h2.Fg
  obtain ⟨v, L, h1, _⟩ := h
  obtain ⟨v2, L2, h3, _⟩ := h2
  cases hi : Try.prog.info? 147 with
  | none => exact absurd hi (by decide +kernel)
  | some j =>
    exact run_eql_ptr_other w (te := 147) (j := j) Try.underlying28 hi (by
      have e : (Try.prog.info? 147).map (·.size) = some 5 := by kernel_rfl
      rw [hi] at e
      simp at e
      omega) (by
      intro e
      injection e with e
      exact hd g n1 (e ▸ n2)) h1.block h3.block
/-- What stands beside goes along. -/
theorem Chg.left {w w' : World} {F F' : Nat → Prop} (h : Chg w w' F F') (G : Nat → Prop) : Chg w w' (fun k => F k ∨ G k) (fun k => F' k ∨ G k) :=
  ⟨h.os, h.tape, h.output, h.size, fun k hk hn => h.block k hk fun e => hn (.inl e), fun k e => e.elim (fun e => (h.new k e).elim (fun e => .inl (.inl e)) .inr) fun e => .inl (.inr e)⟩
theorem Chg.right {w w' : World} {F F' : Nat → Prop} (h : Chg w w' F F') (G : Nat → Prop) : Chg w w' (fun k => G k ∨ F k) (fun k => G k ∨ F' k) :=
  ⟨h.os, h.tape, h.output, h.size, fun k hk hn => h.block k hk fun e => hn (.inr e), fun k e => e.elim (fun e => .inl (.inl e)) fun e => (h.new k e).elim (fun e => .inl (.inr e)) .inr⟩
end Go.Proofs.Ytjmjehhmkjhalaa
