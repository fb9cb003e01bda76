/-
  Small laws on blocks of memory that the walks of this seat share: a block that holds known cells keeps them behind what a call or a loop does elsewhere.
-/
import Derived.RangeFuncNested
import Derived.RangeFuncBound
import Derived.RangeFuncCalls
import Derived.RangeFuncLeaves
import Derived.Shelf.Abstract
import Derived.Shelf.RegionOpen
import Derived.WalkKit
import Derived.OwnWalkIn
import Derived.TacticsInMore
import Derived.LoopNIn
import Derived.LoopIn
import Derived.Test.YtlahfffgmfjpaaaGreatDoorProg
namespace Go.Proofs.YtlahfffgmfjpaaaGreatDoor
open Go.RowKit Go.Shelf

abbrev I (n : Int) : Value := .int .i64 n
abbrev A3 (a b c : Int) : Value := .agg #[.int .i64 a, .int .i64 b, .int .i64 c]

/-- Block B of W holds just the cells vs, of type t, none of them frozen. -/
def Blk (W : World) (B : Nat) (t : TypeId) (vs : Array Value) : Prop := W.heap[B]? = some (.cells vs t (0, 0))

theorem Blk.lt {W : World} {B : Nat} {t : TypeId} {vs : Array Value} (h : Blk W B t vs) : B < W.heap.size := (Array.getElem?_eq_some_iff.1 h).1
theorem Blk.cell {W : World} {B : Nat} {t : TypeId} {vs : Array Value} (h : Blk W B t vs) (i : Nat) : W.cell? ⟨B, i, none⟩ = vs[i]? := by
  simp [World.cell?, show W.heap[B]? = _ from h]
theorem Blk.frozen {W : World} {B : Nat} {t : TypeId} {vs : Array Value} (h : Blk W B t vs) (i : Nat) : W.frozen? ⟨B, i, none⟩ = false := by
  simp [World.frozen?, show W.heap[B]? = _ from h]
theorem Blk.new (W : World) (t : TypeId) (vs : Array Value) : Blk (W.alloc (.cells vs t)) W.heap.size t vs := World.alloc_heap_new W _
theorem Blk.alloc {W : World} {B : Nat} {t : TypeId} {vs : Array Value} (h : Blk W B t vs) (o : Obj) : Blk (W.alloc o) B t vs :=
  (Below.heap_alloc W o B h.lt).trans h
theorem Blk.drew {W : World} {B : Nat} {t : TypeId} {vs : Array Value} (h : Blk W B t vs) : Blk W.drew B t vs := h
theorem Blk.below {W W' : World} {B n : Nat} {t : TypeId} {vs : Array Value} (h : Blk W B t vs) (hb : Below n W W') (hn : B < n) : Blk W' B t vs :=
  (hb.block B hn).trans h
theorem Blk.later {W W' : World} {B : Nat} {t : TypeId} {vs : Array Value} (h : Blk W B t vs) (hb : Below W.heap.size W W') : Blk W' B t vs :=
  h.below hb h.lt
theorem Blk.set {W : World} {B : Nat} {t : TypeId} {vs : Array Value} (h : Blk W B t vs) (i : Nat) (v : Value) : Blk (W.setCell ⟨B, i, none⟩ v) B t (vs.setIfInBounds i v) := by
  obtain ⟨hlt, hk⟩ := Array.getElem?_eq_some_iff.1 h
  show (W.heap.modify B _)[B]? = _
  rw [Array.getElem?_eq_getElem (by rw [Array.size_modify]; exact hlt), Array.getElem_modify_self, hk]
  simp
theorem Blk.other {W : World} {B B' : Nat} {t : TypeId} {vs : Array Value} (h : Blk W B t vs) (i : Nat) (v : Value) (hne : B ≠ B') : Blk (W.setCell ⟨B', i, none⟩ v) B t vs :=
  (Below.heap_setCell W ⟨B', i, none⟩ v B hne).trans h
theorem Blk.kept {W W' : World} {row : Option Nat} {B : Nat} {t : TypeId} {vs : Array Value} (h : Blk W B t vs) (hg : W.grownBy W' row) (hrow : ∀ r, row = some r → ∃ o : Obj, W.heap[r]? = some o ∧ o.isCells = false) : Blk W' B t vs :=
  (grownBy_keeps_cells hg hrow h rfl).trans h
theorem Blk.putObj {W : World} {B D : Nat} {t : TypeId} {vs : Array Value} (h : Blk W B t vs) {o : Obj} (o' : Obj) (hD : W.heap[D]? = some o) (ho : o.isCells = false) : Blk (W.putObj D o') B t vs :=
  h.kept (grownBy_putObj' W D o') (fun r e => by cases e; exact ⟨o, hD, ho⟩)

theorem blk_own {β : Type} (B : Nat) (t : TypeId) (f : β → Array Value) : Own (fun s W => Blk W B t (f s)) :=
  fun _ _ _ _ hs hg hr => Blk.kept hs hg hr
theorem own_and {β : Type} {X Y : β → World → Prop} (h : Own X) (k : Own Y) : Own (fun s W => X s W ∧ Y s W) :=
  fun s W W' row hs hg hr => ⟨h s W W' row hs.1 hg hr, k s W W' row hs.2 hg hr⟩
theorem own_pure {β : Type} (X : β → Prop) : Own (fun s (_ : World) => X s) := fun _ _ _ _ hs _ _ => hs

theorem below_put {w W : World} {D : Nat} {o : Obj} (o' : Obj) (hB : Below w.heap.size w W) (hD : w.heap.size ≤ D) (_hK : W.heap[D]? = some o) : Below w.heap.size w (W.putObj D o') :=
  hB.grown (grownBy_putObj' W D o') hB.size (fun k e => by cases e; exact hD)

theorem then_below {w a b : World} (h : Below w.heap.size w a) (k : Below a.heap.size a b) : Below w.heap.size w b := h.trans (k.mono h.size)
theorem then_alloc {w a : World} (h : Below w.heap.size w a) (o : Obj) : Below w.heap.size w (a.alloc o) := h.alloc h.size o
theorem wrap_in (n : Int) (h : -4611686018427387904 ≤ n ∧ n ≤ 4611686018427387904) : wrap64 n = n := by unfold wrap64; omega

theorem two_start (w : World) (u0 u1 : Array Value) (t0 t1 : TypeId) :
    ∃ W : World, (w.alloc (.cells u0 t0)).alloc (.cells u1 t1) = W ∧ Below w.heap.size w W ∧ Blk W w.heap.size t0 u0 ∧ Blk W (w.heap.size + 1) t1 u1 := by
  refine ⟨_, rfl, ((Below.refl _ w).alloc (Nat.le_refl _) _).alloc (by simp) _, ?_, ?_⟩
  · exact (Blk.new w t0 u0).alloc _
  · have := Blk.new (w.alloc (.cells u0 t0)) t1 u1; simpa using this

/-- What a later world has in a block of three numbers. -/
theorem Blk.three {W W' : World} {B : Nat} {t : TypeId} {a b c : Int} (h : Blk W B t #[I a, I b, I c]) (hb : Below W.heap.size W W') :
    W'.cell? ⟨B, 0, none⟩ = some (I a) ∧ W'.cell? ⟨B, 1, none⟩ = some (I b) ∧ W'.cell? ⟨B, 2, none⟩ = some (I c) ∧ B < W'.heap.size :=
  ⟨(h.later hb).cell 0, (h.later hb).cell 1, (h.later hb).cell 2, (h.later hb).lt⟩

theorem Blk.set3 {W : World} {B : Nat} {t : TypeId} {x y z : Value} (h : Blk W B t #[x, y, z]) (a b c : Value) :
    Blk (((W.setCell ⟨B, 0, none⟩ a).setCell ⟨B, 1, none⟩ b).setCell ⟨B, 2, none⟩ c) B t #[a, b, c] := ((h.set 0 a).set 1 b).set 2 c
theorem below_set3 {n : Nat} {w W : World} {B : Nat} (h : Below n w W) (hn : n ≤ B) (a b c : Value) :
    Below n w (((W.setCell ⟨B, 0, none⟩ a).setCell ⟨B, 1, none⟩ b).setCell ⟨B, 2, none⟩ c) :=
  ((h.setCell (p := ⟨B, 0, none⟩) hn a).setCell (p := ⟨B, 1, none⟩) hn b).setCell (p := ⟨B, 2, none⟩) hn c
theorem Blk.row {W : World} {B : Nat} {t : TypeId} {a b c : Value} (h : Blk W B t #[a, b, c]) :
    W.cell? ⟨B, 0, none⟩ = some a ∧ W.cell? ⟨B, 1, none⟩ = some b ∧ W.cell? ⟨B, 2, none⟩ = some c ∧ W.frozen? ⟨B, 0, none⟩ = false ∧ W.frozen? ⟨B, 1, none⟩ = false ∧ W.frozen? ⟨B, 2, none⟩ = false :=
  ⟨h.cell 0, h.cell 1, h.cell 2, h.frozen 0, h.frozen 1, h.frozen 2⟩

theorem bool_ext {x y : Bool} (h : x = true ↔ y = true) : x = y := by cases x <;> cases y <;> simp at h ⊢

theorem Blk.one {W W' : World} {B : Nat} {t : TypeId} {a : Int} (h : Blk W B t #[I a]) (hb : Below W.heap.size W W') : W'.cell? ⟨B, 0, none⟩ = some (.int .i64 a) ∧ B < W'.heap.size := ⟨(h.later hb).cell 0, (h.later hb).lt⟩
theorem one_start (w : World) (u : Array Value) (t : TypeId) : ∃ W, w.alloc (.cells u t) = W ∧ Below w.heap.size w W ∧ Blk W w.heap.size t u := ⟨_, rfl, (Below.refl _ w).alloc (Nat.le_refl _) _, Blk.new w _ _⟩
theorem three_boxes (w : World) (u0 u1 u2 : Array Value) (t0 t1 t2 : TypeId) :
    ∃ W : World, ((w.alloc (.cells u0 t0)).alloc (.cells u1 t1)).alloc (.cells u2 t2) = W ∧ Below w.heap.size w W ∧ Blk W w.heap.size t0 u0 ∧ Blk W (w.heap.size + 1) t1 u1 ∧ Blk W (w.heap.size + 1 + 1) t2 u2 := by
  refine ⟨_, rfl, (((Below.refl _ w).alloc (Nat.le_refl _) _).alloc (by simp) _).alloc (by simp; omega) _, ?_, ?_, ?_⟩
  · exact ((Blk.new w t0 u0).alloc _).alloc _
  · have := (Blk.new (w.alloc (.cells u0 t0)) t1 u1).alloc (.cells u2 t2); simpa using this
  · have := Blk.new ((w.alloc (.cells u0 t0)).alloc (.cells u1 t1)) t2 u2; simpa using this

end Go.Proofs.YtlahfffgmfjpaaaGreatDoor

/-
  Plain arithmetic of midplanes on a torus: no program is named here.
-/
namespace Go.Proofs.YtlahfffgmfjpaaaGreatDoor
open Go.RowKit

/-- Dimensions that may be. -/
def okD (d : Int) : Prop := 1 ≤ d ∧ d ≤ 16
def mayD (d0 d1 d2 : Int) : Prop := okD d0 ∧ okD d1 ∧ okD d2
def belowB (k n : Int) : Bool := decide (0 ≤ k) && decide (k < n)

def dimAt (d0 d1 d2 : Int) (k : Fin 3) : Int := match k with | 0 => d0 | 1 => d1 | 2 => d2
theorem dimAt_ok {d0 d1 d2 : Int} (h : mayD d0 d1 d2) (k : Fin 3) : okD (dimAt d0 d1 d2 k) := by
  obtain ⟨a, b, c⟩ := h
  match k with
  | 0 => exact a
  | 1 => exact b
  | 2 => exact c

/-- The product of the dimensions along the axes of a list. -/
def prodL (d0 d1 d2 : Int) (pre : List (Fin 3)) : Int := pre.foldl (fun p k => p * dimAt d0 d1 d2 k) 1

theorem mul_bd {a b M N : Int} (ha : 0 ≤ a) (haM : a ≤ M) (hb : 0 ≤ b) (hbN : b ≤ N) : 0 ≤ a * b ∧ a * b ≤ M * N :=
  ⟨Int.mul_nonneg ha hb, Int.mul_le_mul haM hbN hb (Int.le_trans ha haM)⟩

theorem foldl_bd {d0 d1 d2 : Int} (h : mayD d0 d1 d2) : ∀ (pre : List (Fin 3)) (p : Int), 0 ≤ p → 0 ≤ pre.foldl (fun p k => p * dimAt d0 d1 d2 k) p ∧ pre.foldl (fun p k => p * dimAt d0 d1 d2 k) p ≤ p * 16 ^ pre.length
  | [], p, hp => ⟨hp, by simp⟩
  | k :: r, p, hp => by
    have hk := dimAt_ok h k
    unfold okD at hk
    have hb := mul_bd hp (Int.le_refl p) (by omega : (0 : Int) ≤ dimAt d0 d1 d2 k) hk.2
    have ih := foldl_bd h r (p * dimAt d0 d1 d2 k) hb.1
    refine ⟨ih.1, Int.le_trans ih.2 ?_⟩
    rw [List.length_cons, Int.pow_succ, Int.mul_comm ((16 : Int) ^ r.length) 16, ← Int.mul_assoc]
    exact Int.mul_le_mul_of_nonneg_right hb.2 (Int.pow_nonneg (by omega))

theorem prodL_bd {d0 d1 d2 : Int} (h : mayD d0 d1 d2) (pre : List (Fin 3)) (hl : pre.length < 3) : 0 ≤ prodL d0 d1 d2 pre ∧ prodL d0 d1 d2 pre ≤ 256 := by
  have hb := foldl_bd h pre 1 (by omega)
  refine ⟨hb.1, Int.le_trans hb.2 ?_⟩
  match pre, hl with
  | [], _ => simp
  | [_], _ => simp
  | [_, _], _ => simp

theorem prodL_snoc {d0 d1 d2 : Int} (h : mayD d0 d1 d2) (pre : List (Fin 3)) (x : Fin 3) (hl : pre.length < 3) : Hid (wrap64 (prodL d0 d1 d2 pre * dimAt d0 d1 d2 x) = prodL d0 d1 d2 (pre ++ [x])) := by
  have hb := prodL_bd h pre hl
  have hk := dimAt_ok h x
  unfold okD at hk
  have hm := mul_bd hb.1 hb.2 (by omega : (0 : Int) ≤ dimAt d0 d1 d2 x) hk.2
  have e : prodL d0 d1 d2 (pre ++ [x]) = prodL d0 d1 d2 pre * dimAt d0 d1 d2 x := by simp [prodL]
  show wrap64 _ = _
  rw [e, wrap_in _ (by omega)]

/-- Coordinates that are within. -/
def inD (d0 d1 d2 p0 p1 p2 : Int) : Prop := (0 ≤ p0 ∧ p0 < d0) ∧ (0 ≤ p1 ∧ p1 < d1) ∧ (0 ≤ p2 ∧ p2 < d2)
/-- The midplane there. -/
def numD (d0 d1 p0 p1 p2 : Int) : Int := p0 + d0 * (p1 + d1 * p2)

def strd (d0 d1 : Int) (k : Fin 3) : Int := match k with | 0 => 1 | 1 => wrap64 d0 | 2 => wrap64 (wrap64 d0 * d1)
theorem strd_ok {d0 d1 d2 : Int} (h : mayD d0 d1 d2) : strd d0 d1 0 = 1 ∧ strd d0 d1 1 = d0 ∧ strd d0 d1 2 = d0 * d1 ∧ ∀ k, 1 ≤ strd d0 d1 k ∧ strd d0 d1 k ≤ 256 := by
  obtain ⟨h0, h1, h2⟩ := h
  unfold okD at h0 h1 h2
  have e1 : wrap64 d0 = d0 := wrap_in _ (by omega)
  have hp : 0 ≤ d0 * d1 ∧ d0 * d1 ≤ 16 * 16 := mul_bd (by omega) h0.2 (by omega) h1.2
  have hp1 : 1 * 1 ≤ d0 * d1 := Int.mul_le_mul h0.1 h1.1 (by omega) (by omega)
  have e2 : wrap64 (wrap64 d0 * d1) = d0 * d1 := by rw [e1]; exact wrap_in _ (by omega)
  refine ⟨rfl, e1, e2, fun k => ?_⟩
  match k with
  | 0 => show 1 ≤ (1 : Int) ∧ (1 : Int) ≤ 256; omega
  | 1 => show 1 ≤ wrap64 d0 ∧ wrap64 d0 ≤ 256; rw [e1]; omega
  | 2 => show 1 ≤ wrap64 (wrap64 d0 * d1) ∧ wrap64 (wrap64 d0 * d1) ≤ 256; rw [e2]; omega

/-- Within, along one axis. -/
def inK (d0 d1 d2 p0 p1 p2 : Int) (k : Fin 3) : Prop := 0 ≤ dimAt p0 p1 p2 k ∧ dimAt p0 p1 p2 k < dimAt d0 d1 d2 k
theorem inD_of {d0 d1 d2 p0 p1 p2 : Int} (h : ∀ k ∈ [0, 1, 2], inK d0 d1 d2 p0 p1 p2 k) : inD d0 d1 d2 p0 p1 p2 := ⟨h 0 (by simp), h 1 (by simp), h 2 (by simp)⟩
theorem inK_of {d0 d1 d2 p0 p1 p2 : Int} (h : inD d0 d1 d2 p0 p1 p2) (k : Fin 3) : inK d0 d1 d2 p0 p1 p2 k := by
  obtain ⟨a, b, c⟩ := h
  match k with
  | 0 => exact a
  | 1 => exact b
  | 2 => exact c

def numL (d0 d1 p0 p1 p2 : Int) (pre : List (Fin 3)) : Int := pre.foldl (fun s k => s + dimAt p0 p1 p2 k * strd d0 d1 k) 0
theorem num_bd {d0 d1 d2 p0 p1 p2 : Int} (h : mayD d0 d1 d2) (k : Fin 3) (hk : inK d0 d1 d2 p0 p1 p2 k) : 0 ≤ dimAt p0 p1 p2 k * strd d0 d1 k ∧ dimAt p0 p1 p2 k * strd d0 d1 k ≤ 4096 := by
  have hd := dimAt_ok h k
  have hs := (strd_ok h).2.2.2 k
  unfold okD at hd
  unfold inK at hk
  have := mul_bd (a := dimAt p0 p1 p2 k) (b := strd d0 d1 k) (M := 16) (N := 256) (by omega) (by omega) (by omega) (by omega)
  omega
theorem numL_bd {d0 d1 d2 p0 p1 p2 : Int} (h : mayD d0 d1 d2) : ∀ (pre : List (Fin 3)) (s : Int), (∀ k ∈ pre, inK d0 d1 d2 p0 p1 p2 k) → 0 ≤ s →
    s ≤ pre.foldl (fun s k => s + dimAt p0 p1 p2 k * strd d0 d1 k) s ∧ pre.foldl (fun s k => s + dimAt p0 p1 p2 k * strd d0 d1 k) s ≤ s + 4096 * pre.length
  | [], s, _, hs => ⟨Int.le_refl _, by simp⟩
  | k :: r, s, hp, hs => by
    have hb := num_bd h k (hp k (by simp))
    have ih := numL_bd h r (s + dimAt p0 p1 p2 k * strd d0 d1 k) (fun j hj => hp j (by simp [hj])) (by omega)
    simp only [List.foldl_cons, List.length_cons]
    refine ⟨Int.le_trans (by omega) ih.1, Int.le_trans ih.2 ?_⟩
    omega
theorem numL_snoc {d0 d1 d2 p0 p1 p2 : Int} (h : mayD d0 d1 d2) (pre : List (Fin 3)) (x : Fin 3) (hl : pre.length < 3) (hp : ∀ k ∈ pre, inK d0 d1 d2 p0 p1 p2 k) (hx : inK d0 d1 d2 p0 p1 p2 x) :
    wrap64 (numL d0 d1 p0 p1 p2 pre + wrap64 (dimAt p0 p1 p2 x * strd d0 d1 x)) = numL d0 d1 p0 p1 p2 (pre ++ [x]) := by
  have hb := num_bd h x hx
  have hn := numL_bd h pre 0 hp (Int.le_refl _)
  have e : numL d0 d1 p0 p1 p2 (pre ++ [x]) = numL d0 d1 p0 p1 p2 pre + dimAt p0 p1 p2 x * strd d0 d1 x := by simp [numL]
  rw [e, wrap_in (dimAt p0 p1 p2 x * strd d0 d1 x) (by omega)]
  refine wrap_in _ ?_
  unfold numL
  omega
theorem numL_all {d0 d1 d2 p0 p1 p2 : Int} (h : mayD d0 d1 d2) : numL d0 d1 p0 p1 p2 [0, 1, 2] = numD d0 d1 p0 p1 p2 := by
  obtain ⟨e0, e1, e2, _⟩ := strd_ok h
  simp only [numL, List.foldl_cons, List.foldl_nil, dimAt, e0, e1, e2, numD]
  have e : p2 * (d0 * d1) = d0 * (d1 * p2) := by rw [Int.mul_comm p2, Int.mul_assoc]
  rw [Int.mul_add, e, Int.mul_comm p1 d0]
  omega

/-- A midplane's coordinate along an axis. -/
def crd (d0 d1 d2 m : Int) (k : Fin 3) : Int := m / strd d0 d1 k % dimAt d0 d1 d2 k
def crdL (d0 d1 d2 m : Int) (pre : List (Fin 3)) (k : Fin 3) : Int := if k ∈ pre then crd d0 d1 d2 m k else 0
theorem crdL_same (d0 d1 d2 m : Int) (pre : List (Fin 3)) (k : Fin 3) : crdL d0 d1 d2 m (pre ++ [k]) k = crd d0 d1 d2 m k := by simp [crdL]
theorem crdL_other (d0 d1 d2 m : Int) (pre : List (Fin 3)) {k j : Fin 3} (h : k ≠ j) : crdL d0 d1 d2 m (pre ++ [j]) k = crdL d0 d1 d2 m pre k := by simp [crdL, h]

/-- The three coordinates, said without strides. -/
def cx (d0 m : Int) : Int := m % d0
def cy (d0 d1 m : Int) : Int := m / d0 % d1
def cz (d0 d1 m : Int) : Int := m / d0 / d1
theorem N_bd {d0 d1 d2 : Int} (h : mayD d0 d1 d2) : 1 ≤ d0 * d1 * d2 ∧ d0 * d1 * d2 ≤ 4096 := by
  obtain ⟨h0, h1, h2⟩ := h
  unfold okD at h0 h1 h2
  have hp : 0 ≤ d0 * d1 ∧ d0 * d1 ≤ 16 * 16 := mul_bd (by omega) h0.2 (by omega) h1.2
  have hp1 : 1 * 1 ≤ d0 * d1 := Int.mul_le_mul h0.1 h1.1 (by omega) (by omega)
  have hq : 0 ≤ d0 * d1 * d2 ∧ d0 * d1 * d2 ≤ 256 * 16 := mul_bd hp.1 (by omega) (by omega) h2.2
  have hq1 : 1 * 1 ≤ d0 * d1 * d2 := Int.mul_le_mul (by omega) h2.1 (by omega) (by omega)
  omega
theorem cz_lt {d0 d1 d2 m : Int} (h : mayD d0 d1 d2) (hm : 0 ≤ m ∧ m < d0 * d1 * d2) : 0 ≤ cz d0 d1 m ∧ cz d0 d1 m < d2 := by
  obtain ⟨h0, h1, h2⟩ := h
  unfold okD at h0 h1 h2
  unfold cz
  have a : 0 ≤ m / d0 := Int.ediv_nonneg hm.1 (by omega)
  refine ⟨Int.ediv_nonneg a (by omega), ?_⟩
  refine Int.ediv_lt_of_lt_mul (by omega) ?_
  refine Int.ediv_lt_of_lt_mul (by omega) ?_
  rw [show d2 * d1 * d0 = d0 * d1 * d2 by rw [Int.mul_comm d2, Int.mul_comm (d1 * d2), Int.mul_assoc]]
  exact hm.2
theorem crd_all {d0 d1 d2 m : Int} (h : mayD d0 d1 d2) (hm : 0 ≤ m ∧ m < d0 * d1 * d2) : crd d0 d1 d2 m 0 = cx d0 m ∧ crd d0 d1 d2 m 1 = cy d0 d1 m ∧ crd d0 d1 d2 m 2 = cz d0 d1 m := by
  obtain ⟨e0, e1, e2, _⟩ := strd_ok h
  have hz := cz_lt h hm
  have h0 := h.1
  unfold okD at h0
  refine ⟨?_, ?_, ?_⟩
  · simp [crd, e0, dimAt, cx]
  · simp [crd, e1, dimAt, cy]
  · simp only [crd, e2, dimAt]
    have e : m / (d0 * d1) = m / d0 / d1 := by
      rw [Int.ediv_ediv, if_neg (fun hx => by omega)]; omega
    rw [e]
    exact Int.emod_eq_of_lt hz.1 hz.2
/-- A midplane's coordinates are within, and lead back. -/
theorem inD_of_node {d0 d1 d2 m : Int} (h : mayD d0 d1 d2) (hm : 0 ≤ m ∧ m < d0 * d1 * d2) : inD d0 d1 d2 (cx d0 m) (cy d0 d1 m) (cz d0 d1 m) := by
  have hz := cz_lt h hm
  obtain ⟨h0, h1, h2⟩ := h
  unfold okD at h0 h1 h2
  exact ⟨⟨Int.emod_nonneg _ (by omega), Int.emod_lt_of_pos _ (by omega)⟩, ⟨Int.emod_nonneg _ (by omega), Int.emod_lt_of_pos _ (by omega)⟩, hz⟩
theorem num_of_node {d0 d1 m : Int} : numD d0 d1 (cx d0 m) (cy d0 d1 m) (cz d0 d1 m) = m := by
  unfold numD cx cy cz
  have a := Int.emod_add_mul_ediv m d0
  have b := Int.emod_add_mul_ediv (m / d0) d1
  rw [b]; exact a

/-- The midplane some steps on along an axis. -/
def onD (d0 d1 d2 m : Int) (k : Fin 3) (n : Int) : Int :=
  match k with
  | 0 => numD d0 d1 ((cx d0 m + n) % d0) (cy d0 d1 m) (cz d0 d1 m)
  | 1 => numD d0 d1 (cx d0 m) ((cy d0 d1 m + n) % d1) (cz d0 d1 m)
  | 2 => numD d0 d1 (cx d0 m) (cy d0 d1 m) ((cz d0 d1 m + n) % d2)
theorem inD_on {d0 d1 d2 m : Int} (h : mayD d0 d1 d2) (hm : 0 ≤ m ∧ m < d0 * d1 * d2) (n : Int) :
    inD d0 d1 d2 ((cx d0 m + n) % d0) (cy d0 d1 m) (cz d0 d1 m) ∧ inD d0 d1 d2 (cx d0 m) ((cy d0 d1 m + n) % d1) (cz d0 d1 m) ∧ inD d0 d1 d2 (cx d0 m) (cy d0 d1 m) ((cz d0 d1 m + n) % d2) := by
  obtain ⟨a, b, c⟩ := inD_of_node h hm
  obtain ⟨h0, h1, h2⟩ := h
  unfold okD at h0 h1 h2
  exact ⟨⟨⟨Int.emod_nonneg _ (by omega), Int.emod_lt_of_pos _ (by omega)⟩, b, c⟩, ⟨a, ⟨Int.emod_nonneg _ (by omega), Int.emod_lt_of_pos _ (by omega)⟩, c⟩, ⟨a, b, ⟨Int.emod_nonneg _ (by omega), Int.emod_lt_of_pos _ (by omega)⟩⟩⟩
theorem tmod_bd (n d : Int) (h : 1 ≤ d) : -d < n.tmod d ∧ n.tmod d < d ∧ ∀ c, (c + n.tmod d) % d = (c + n) % d := by
  have e := Int.tmod_add_mul_tdiv n d
  have hl : n.tmod d < d := Int.tmod_lt_of_pos _ (by omega)
  have hg : -d < n.tmod d := by
    rcases Int.lt_or_le n 0 with hn | hn
    · have := Int.tmod_lt_of_pos (-n) (b := d) (by omega)
      rw [Int.neg_tmod] at this; omega
    · have := Int.tmod_nonneg d hn; omega
  refine ⟨hg, hl, fun c => ?_⟩
  have h2 : c + n = (c + n.tmod d) + d * n.tdiv d := by omega
  rw [h2, Int.add_mul_emod_self_left]

def minI (a b : Int) : Int := if b < a then b else a
/-- How far apart along one axis of n. -/
def ring (n p q : Int) : Int := minI ((q - p) % n) (n - (q - p) % n)
def ringK (d0 d1 d2 p0 p1 p2 q0 q1 q2 : Int) (k : Fin 3) : Int := ring (dimAt d0 d1 d2 k) (dimAt p0 p1 p2 k) (dimAt q0 q1 q2 k)
def ringL (d0 d1 d2 p0 p1 p2 q0 q1 q2 : Int) (pre : List (Fin 3)) : Int := pre.foldl (fun s k => s + ringK d0 d1 d2 p0 p1 p2 q0 q1 q2 k) 0
/-- How far two midplanes are apart. -/
def farD (d0 d1 d2 a b : Int) : Int := ring d0 (cx d0 a) (cx d0 b) + ring d1 (cy d0 d1 a) (cy d0 d1 b) + ring d2 (cz d0 d1 a) (cz d0 d1 b)
/-- Coordinates that are within lead to a midplane whose coordinates they are. -/
theorem node_of_in {d0 d1 d2 p0 p1 p2 : Int} (h : mayD d0 d1 d2) (hp : inD d0 d1 d2 p0 p1 p2) :
    (0 ≤ numD d0 d1 p0 p1 p2 ∧ numD d0 d1 p0 p1 p2 < d0 * d1 * d2) ∧ cx d0 (numD d0 d1 p0 p1 p2) = p0 ∧ cy d0 d1 (numD d0 d1 p0 p1 p2) = p1 ∧ cz d0 d1 (numD d0 d1 p0 p1 p2) = p2 := by
  obtain ⟨h0, h1, h2⟩ := h
  unfold okD at h0 h1 h2
  obtain ⟨a, b, c⟩ := hp
  have e1 : (p1 + d1 * p2) / d1 = p2 := by
    rw [Int.add_mul_ediv_left _ _ (by omega), Int.ediv_eq_zero_of_lt b.1 b.2]; omega
  have e2 : (p1 + d1 * p2) % d1 = p1 := by
    rw [Int.add_mul_emod_self_left, Int.emod_eq_of_lt b.1 b.2]
  have e3 : numD d0 d1 p0 p1 p2 / d0 = p1 + d1 * p2 := by
    unfold numD
    rw [Int.add_mul_ediv_left _ _ (by omega), Int.ediv_eq_zero_of_lt a.1 a.2]; omega
  have e4 : numD d0 d1 p0 p1 p2 % d0 = p0 := by
    unfold numD
    rw [Int.add_mul_emod_self_left, Int.emod_eq_of_lt a.1 a.2]
  have n1 : 0 ≤ d1 * p2 := Int.mul_nonneg (by omega) c.1
  have n2 : d1 * p2 ≤ d1 * (d2 - 1) := Int.mul_le_mul_of_nonneg_left (by omega) (by omega)
  rw [Int.mul_sub, Int.mul_one] at n2
  have n3 : 0 ≤ d0 * (p1 + d1 * p2) := Int.mul_nonneg (by omega) (by omega)
  have n4 : d0 * (p1 + d1 * p2) ≤ d0 * (d1 * d2 - 1) := Int.mul_le_mul_of_nonneg_left (by omega) (by omega)
  rw [Int.mul_sub, Int.mul_one, ← Int.mul_assoc] at n4
  refine ⟨⟨by unfold numD; omega, by unfold numD; omega⟩, e4, ?_, ?_⟩
  · unfold cy; rw [e3, e2]
  · unfold cz; rw [e3, e1]

end Go.Proofs.YtlahfffgmfjpaaaGreatDoor

/-
  Plain arithmetic: steps on a torus add up, lead round, and do not hang on each other; how far midplanes are apart. No program is named here.
-/
namespace Go.Proofs.YtlahfffgmfjpaaaGreatDoor
open Go.RowKit

/-- What a step makes of the coordinates. -/
theorem on_coords {d0 d1 d2 m : Int} (h : mayD d0 d1 d2) (hm : 0 ≤ m ∧ m < d0 * d1 * d2) (k : Fin 3) (n : Int) :
    (0 ≤ onD d0 d1 d2 m k n ∧ onD d0 d1 d2 m k n < d0 * d1 * d2) ∧
    cx d0 (onD d0 d1 d2 m k n) = (if k = 0 then (cx d0 m + n) % d0 else cx d0 m) ∧
    cy d0 d1 (onD d0 d1 d2 m k n) = (if k = 1 then (cy d0 d1 m + n) % d1 else cy d0 d1 m) ∧
    cz d0 d1 (onD d0 d1 d2 m k n) = (if k = 2 then (cz d0 d1 m + n) % d2 else cz d0 d1 m) := by
  obtain ⟨i0, i1, i2⟩ := inD_on h hm n
  match k with
  | 0 => exact node_of_in h i0
  | 1 => exact node_of_in h i1
  | 2 => exact node_of_in h i2
theorem on_node {d0 d1 d2 m : Int} (h : mayD d0 d1 d2) (hm : 0 ≤ m ∧ m < d0 * d1 * d2) (k : Fin 3) (n : Int) : 0 ≤ onD d0 d1 d2 m k n ∧ onD d0 d1 d2 m k n < d0 * d1 * d2 := (on_coords h hm k n).1

/-- Midplanes with the same coordinates are one. -/
theorem node_ext {d0 d1 m n : Int} (hx : cx d0 m = cx d0 n) (hy : cy d0 d1 m = cy d0 d1 n) (hz : cz d0 d1 m = cz d0 d1 n) : m = n := by
  rw [← num_of_node (d0 := d0) (d1 := d1) (m := m), hx, hy, hz, num_of_node]

theorem on_on {d0 d1 d2 m : Int} (h : mayD d0 d1 d2) (hm : 0 ≤ m ∧ m < d0 * d1 * d2) (k : Fin 3) (a b : Int) : onD d0 d1 d2 (onD d0 d1 d2 m k a) k b = onD d0 d1 d2 m k (a + b) := by
  obtain ⟨n1, x1, y1, z1⟩ := on_coords h hm k a
  obtain ⟨_, x2, y2, z2⟩ := on_coords h n1 k b
  obtain ⟨_, x3, y3, z3⟩ := on_coords h hm k (a + b)
  refine node_ext (d0 := d0) (d1 := d1) ?_ ?_ ?_
  · rw [x2, x3, x1]; split
    · rw [Int.emod_add_emod, Int.add_assoc]
    · rfl
  · rw [y2, y3, y1]; split
    · rw [Int.emod_add_emod, Int.add_assoc]
    · rfl
  · rw [z2, z3, z1]; split
    · rw [Int.emod_add_emod, Int.add_assoc]
    · rfl
theorem on_round {d0 d1 d2 m : Int} (h : mayD d0 d1 d2) (hm : 0 ≤ m ∧ m < d0 * d1 * d2) (k : Fin 3) (n : Int) (hn : n = 0 ∨ n = dimAt d0 d1 d2 k) : onD d0 d1 d2 m k n = m := by
  obtain ⟨ix, iy, iz⟩ := inD_of_node h hm
  obtain ⟨_, x1, y1, z1⟩ := on_coords h hm k n
  have e : ∀ c d : Int, 0 ≤ c → c < d → n = 0 ∨ n = d → (c + n) % d = c := by
    intro c d h1 h2 h3
    rcases h3 with h3 | h3
    · rw [h3, Int.add_zero, Int.emod_eq_of_lt h1 h2]
    · rw [h3, Int.add_emod_right, Int.emod_eq_of_lt h1 h2]
  refine node_ext (d0 := d0) (d1 := d1) ?_ ?_ ?_
  · rw [x1]; split
    · rename_i hk; subst hk; exact e _ _ ix.1 ix.2 hn
    · rfl
  · rw [y1]; split
    · rename_i hk; subst hk; exact e _ _ iy.1 iy.2 hn
    · rfl
  · rw [z1]; split
    · rename_i hk; subst hk; exact e _ _ iz.1 iz.2 hn
    · rfl

end Go.Proofs.YtlahfffgmfjpaaaGreatDoor

/-
  pos.axes hands out the three axes, each with its stride, and stops where a round says so; whatever dimensions it is given.
-/
namespace Go.Proofs.YtlahfffgmfjpaaaGreatDoor
open Go.RowKit Go.Shelf

attribute [local go_sem] Oper.semAt_some

def axI (k : Fin 3) : Int := match k with | 0 => 0 | 1 => 1 | 2 => 2
abbrev axEnc (d0 d1 : Int) (k : Fin 3) : Array Value := #[.int .i64 (axI k), .int .i64 (strd d0 d1 k)]

theorem fin3 : ∀ x : Fin 3, x = 0 ∨ x = 1 ∨ x = 2 := by decide

theorem axes_in (F : Fence) (n : Nat) (hF : F.fn 65) (hro : F.round = none) (d0 d1 d2 : Int) (w : World) :
    CallsIn F n Tryz.prog 65 #[A3 d0 d1 d2] w fun e w' => e = .returned (.func (.func 93) #[] #[.pointer (some ⟨w.heap.size, 0, none⟩)]) ∧ w' = w.alloc (.cells #[I d0, I d1, I d2] 23) := by
  refine callsIn_of_wp Tryz.func65 rfl hF ?_ hro
  simp only [Tryz.ntmps65, List.size_toArray, List.length_cons, List.length_nil, Nat.reduceAdd, Nat.reduceSub, Array.replicate_succ, Array.replicate_zero, List.push_toArray, List.append_toArray, List.nil_append, List.cons_append]
  gi_wp2
  go_ret
  exact ⟨rfl, rfl⟩

set_option maxRecDepth 100000 in
set_option maxHeartbeats 2000000 in
theorem axes_stops (F : Fence) (n : Nat) (hF : F.fn 93) (hro : F.round = none) (hn : 1 ≤ n) (Bn : Nat) (d0 d1 d2 : Int) (w : World)
    (hlt : Bn < w.heap.size) (h0 : w.cell? ⟨Bn, 0, none⟩ = some (I d0)) (h1 : w.cell? ⟨Bn, 1, none⟩ = some (I d1)) (h2 : w.cell? ⟨Bn, 2, none⟩ = some (I d2)) :
    SeqStopsK F n Tryz.prog 93 #[.pointer (some ⟨Bn, 0, none⟩)] (axEnc d0 d1) (fun _ _ => True) (fun xs => xs = [0, 1, 2]) (fun pre => pre <+: [0, 1, 2]) 3 w := fun l J Jx W hW hJ hJx hY hJ0 => by
  have c0 : W.cell? ⟨Bn, 0, none⟩ = some (I d0) := (hW.cell (p := ⟨Bn, 0, none⟩) hlt).trans h0
  have c1 : W.cell? ⟨Bn, 1, none⟩ = some (I d1) := (hW.cell (p := ⟨Bn, 1, none⟩) hlt).trans h1
  have c2 : W.cell? ⟨Bn, 2, none⟩ = some (I d2) := (hW.cell (p := ⟨Bn, 2, none⟩) hlt).trans h2
  refine callsIn_of_wp Tryz.func93 rfl hF ?_ hro
  simp only [Tryz.ntmps93, List.size_toArray, List.length_cons, List.length_nil, Nat.reduceAdd, Nat.reduceSub, Array.replicate_succ, Array.replicate_zero, List.push_toArray, List.append_toArray, List.nil_append, List.cons_append]
  have i0 : ∀ w, (Instr.index 23 (A3 d0 d1 d2) (.int .i64 0)).run Tryz.prog w = .ok (I d0) w := fun _ => by kernel_rfl
  have i1 : ∀ w, (Instr.index 23 (A3 d0 d1 d2) (.int .i64 1)).run Tryz.prog w = .ok (I d1) w := fun _ => by kernel_rfl
  have i2 : ∀ w, (Instr.index 23 (A3 d0 d1 d2) (.int .i64 2)).run Tryz.prog w = .ok (I d2) w := fun _ => by kernel_rfl
  gi_wp2
  gi_loopw [3, 7] (fun s i wr => (i = .int .i64 0 ∧ s = .int .i64 1 ∧ J [] wr) ∨ (i = .int .i64 1 ∧ s = .int .i64 (wrap64 d0) ∧ J [0] wr) ∨ (i = .int .i64 2 ∧ s = .int .i64 (wrap64 (wrap64 d0 * d1)) ∧ J [0, 1] wr) ∨ (i = .int .i64 3 ∧ J [0, 1, 2] wr)) (fun _ i _ => 3 - (RowKit.intOf i).toNat)
  case atStart => exact .inl ⟨rfl, rfl, hJ0⟩
  case round =>
    rcases hrel with ⟨rfl, rfl, hj⟩ | ⟨rfl, rfl, hj⟩ | ⟨rfl, rfl, hj⟩ | ⟨rfl, hj⟩
    · obtain ⟨f1, t1, a1, b1, hy1, hR1⟩ := hY [] 0 wr hj (by simp)
      simp only [axEnc, axI, strd] at hy1
      gi_wp2
      refine hR1.mono ?_
      rintro e W3 (⟨rfl, hJ3, _⟩ | ⟨rfl, hJx3⟩)
      · gi_wp2
        go_roundw
        case rel => exact .inr (.inl ⟨rfl, by first | rfl | simp, hJ3⟩)
        case measure => simp [RowKit.intOf]
      · gi_wp2
        refine bodyPost_ret (results_none rfl _ _ _) rfl ?_
        exact ⟨⟨_, rfl⟩, .inr ⟨_, by simp, hJx3⟩⟩
    · obtain ⟨f1, t1, a1, b1, hy1, hR1⟩ := hY [0] 1 wr hj (by simp)
      simp only [axEnc, axI, strd] at hy1
      gi_wp2
      refine hR1.mono ?_
      rintro e W3 (⟨rfl, hJ3, _⟩ | ⟨rfl, hJx3⟩)
      · gi_wp2
        go_roundw
        case rel => exact .inr (.inr (.inl ⟨rfl, rfl, hJ3⟩))
        case measure => simp [RowKit.intOf]
      · gi_wp2
        refine bodyPost_ret (results_none rfl _ _ _) rfl ?_
        exact ⟨⟨_, rfl⟩, .inr ⟨_, by simp, hJx3⟩⟩
    · obtain ⟨f1, t1, a1, b1, hy1, hR1⟩ := hY [0, 1] 2 wr hj (by simp)
      simp only [axEnc, axI, strd] at hy1
      gi_wp2
      refine hR1.mono ?_
      rintro e W3 (⟨rfl, hJ3, _⟩ | ⟨rfl, hJx3⟩)
      · gi_wp2
        go_roundw
        case rel => exact .inr (.inr (.inr ⟨rfl, hJ3⟩))
        case measure => simp [RowKit.intOf]
      · gi_wp2
        refine bodyPost_ret (results_none rfl _ _ _) rfl ?_
        exact ⟨⟨_, rfl⟩, .inr ⟨_, by simp, hJx3⟩⟩
    · gi_wp2
      go_end0
      exact ⟨⟨_, rfl⟩, .inl ⟨_, rfl, hj⟩⟩


/-- A loop over the axes, at the wide fence: what the loop's body keeps, a round at a time. -/
theorem wpIn_axes {g : Operand} {ps : Array Tmp} {assign body : Code} {Q : Exit → Act → World → Prop} {a : Act} {w : World} (Bn : Nat) (d0 d1 d2 : Int)
    (hg : a.eval g = .func (.func 93) #[] #[.pointer (some ⟨Bn, 0, none⟩)]) (hb : Blk w Bn 23 #[I d0, I d1, I d2]) (hps : ps.size = 2)
    (J : List (Fin 3) → World → Prop) (Jx : Code → List (Fin 3) → World → Prop) (hJ : OwnFrom w.heap.size J) (hJx : ∀ c, OwnFrom w.heap.size (Jx c)) (h0 : J [] w) (a₁ : Fin 3 → Act)
    (hassign : ∀ (l : Nat) (x : Fin 3) (W : World) (K : Act → World → Prop), K (a₁ x) W →
      assign.wpIn (Fence.wide.inRound l) 1 Tryz.prog (Exit.then K (fun _ _ _ => False)) { tmps := (ps.zip (axEnc d0 d1 x)).foldl (fun t (p, v) => t.setIfInBounds p v) a.tmps, defers := [] } W)
    (hbody : ∀ (l : Nat) (pre : List (Fin 3)) (x : Fin 3) (W : World), J pre W → pre.length < 3 → body.wpIn (Fence.wide.inRound l) 1 Tryz.prog (ownPostK (fun _ _ => True) J Jx (pre ++ [x]) W) (a₁ x) W)
    (hdone : ∀ (D : Nat) (W : World), w.heap.size ≤ D → J [0, 1, 2] W → W.heap[D]? = some (.deferred (some [])) → Q .normal { a with defers := { target := .collected D, args := #[] } :: a.defers } W)
    (hstop : ∀ (D : Nat) (c : Code) (pre : List (Fin 3)) (W : World), w.heap.size ≤ D → pre <+: [0, 1, 2] → Jx c pre W → W.heap[D]? = some (.deferred (some [])) → c.wpIn Fence.wide 3 Tryz.prog Q { a with defers := { target := .collected D, args := #[] } :: a.defers } W) :
    (Code.rangeFunc g ps assign body).wpIn Fence.wide 3 Tryz.prog Q a w :=
  wpIn_rangeFunc_ownF rfl (by omega) (gf := 93) (lb := #[.pointer (some ⟨Bn, 0, none⟩)]) hg trivial (enters_of Tryz.func93 (by kernel_rfl) rfl)
    (axes_stops Fence.wide 2 trivial rfl (by omega) Bn d0 d1 d2 w hb.lt (hb.cell 0) (hb.cell 1) (hb.cell 2)) (fun _ _ => trivial) (fun _ _ _ _ _ _ _ _ => trivial) (Below.refl _ _) (fun _ => hps.symm)
    J Jx hJ hJx h0 a₁ hassign hbody (fun D xs W hD hxs hj => by subst hxs; exact hdone D W hD hj) hstop

end Go.Proofs.YtlahfffgmfjpaaaGreatDoor
