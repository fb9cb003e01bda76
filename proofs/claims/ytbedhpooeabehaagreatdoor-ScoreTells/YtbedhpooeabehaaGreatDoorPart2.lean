/-
  Plain arithmetic of midplanes on a torus: no program is named here.
-/
import Derived.Test.YtbedhpooeabehaaGreatDoorPart1
import Derived.Test.YtbedhpooeabehaaGreatDoorProg
namespace Go.Proofs.YtbedhpooeabehaaGreatDoor
open Go.RowKit

/-- Dimensions that may be. -/
def okD (d : Int) : Prop := 1 ≤ d ∧ d ≤ 16
def mayD (d0 d1 d2 : Int) : Prop := okD d0 ∧ okD d1 ∧ okD d2
def belowB (k n : Int) : Bool := decide (0 ≤ k) && decide (k < n)

def dimAt (d0 d1 d2 : Int) (k : Fin 3) : Int := match k with | 0 => d0 | 1 => d1 | 2 => d2
theorem dimAt_ok {d0 d1 d2 : Int} (h : mayD d0 d1 d2) (k : Fin 3) : okD (dimAt d0 d1 d2 k) := by
  obtain ⟨a, b, c⟩ := h
  match k with
  | 0 => exact a
  | 1 => exact b
  | 2 => exact c

/-- The product of the dimensions along the axes of a list. -/
def prodL (d0 d1 d2 : Int) (pre : List (Fin 3)) : Int := pre.foldl (fun p k => p * dimAt d0 d1 d2 k) 1

theorem mul_bd {a b M N : Int} (ha : 0 ≤ a) (haM : a ≤ M) (hb : 0 ≤ b) (hbN : b ≤ N) : 0 ≤ a * b ∧ a * b ≤ M * N :=
  ⟨Int.mul_nonneg ha hb, Int.mul_le_mul haM hbN hb (Int.le_trans ha haM)⟩

theorem foldl_bd {d0 d1 d2 : Int} (h : mayD d0 d1 d2) : ∀ (pre : List (Fin 3)) (p : Int), 0 ≤ p → 0 ≤ pre.foldl (fun p k => p * dimAt d0 d1 d2 k) p ∧ pre.foldl (fun p k => p * dimAt d0 d1 d2 k) p ≤ p * 16 ^ pre.length
  | [], p, hp => ⟨hp, by simp⟩
  | k :: r, p, hp => by
    have hk := dimAt_ok h k
    unfold okD at hk
    have hb := mul_bd hp (Int.le_refl p) (by omega : (0 : Int) ≤ dimAt d0 d1 d2 k) hk.2
    have ih := foldl_bd h r (p * dimAt d0 d1 d2 k) hb.1
    refine ⟨ih.1, Int.le_trans ih.2 ?_⟩
    rw [List.length_cons, Int.pow_succ, Int.mul_comm ((16 : Int) ^ r.length) 16, ← Int.mul_assoc]
    exact Int.mul_le_mul_of_nonneg_right hb.2 (Int.pow_nonneg (by omega))

theorem prodL_bd {d0 d1 d2 : Int} (h : mayD d0 d1 d2) (pre : List (Fin 3)) (hl : pre.length < 3) : 0 ≤ prodL d0 d1 d2 pre ∧ prodL d0 d1 d2 pre ≤ 256 := by
  have hb := foldl_bd h pre 1 (by omega)
  refine ⟨hb.1, Int.le_trans hb.2 ?_⟩
  match pre, hl with
  | [], _ => simp
  | [_], _ => simp
  | [_, _], _ => simp

theorem prodL_snoc {d0 d1 d2 : Int} (h : mayD d0 d1 d2) (pre : List (Fin 3)) (x : Fin 3) (hl : pre.length < 3) : Hid (wrap64 (prodL d0 d1 d2 pre * dimAt d0 d1 d2 x) = prodL d0 d1 d2 (pre ++ [x])) := by
  have hb := prodL_bd h pre hl
  have hk := dimAt_ok h x
  unfold okD at hk
  have hm := mul_bd hb.1 hb.2 (by omega : (0 : Int) ≤ dimAt d0 d1 d2 x) hk.2
  have e : prodL d0 d1 d2 (pre ++ [x]) = prodL d0 d1 d2 pre * dimAt d0 d1 d2 x := by simp [prodL]
  show wrap64 _ = _
  rw [e, wrap_in _ (by omega)]

/-- Coordinates that are within. -/
def inD (d0 d1 d2 p0 p1 p2 : Int) : Prop := (0 ≤ p0 ∧ p0 < d0) ∧ (0 ≤ p1 ∧ p1 < d1) ∧ (0 ≤ p2 ∧ p2 < d2)
/-- The midplane there. -/
def numD (d0 d1 p0 p1 p2 : Int) : Int := p0 + d0 * (p1 + d1 * p2)

def strd (d0 d1 : Int) (k : Fin 3) : Int := match k with | 0 => 1 | 1 => wrap64 d0 | 2 => wrap64 (wrap64 d0 * d1)
theorem strd_ok {d0 d1 d2 : Int} (h : mayD d0 d1 d2) : strd d0 d1 0 = 1 ∧ strd d0 d1 1 = d0 ∧ strd d0 d1 2 = d0 * d1 ∧ ∀ k, 1 ≤ strd d0 d1 k ∧ strd d0 d1 k ≤ 256 := by
  obtain ⟨h0, h1, h2⟩ := h
  unfold okD at h0 h1 h2
  have e1 : wrap64 d0 = d0 := wrap_in _ (by omega)
  have hp : 0 ≤ d0 * d1 ∧ d0 * d1 ≤ 16 * 16 := mul_bd (by omega) h0.2 (by omega) h1.2
  have hp1 : 1 * 1 ≤ d0 * d1 := Int.mul_le_mul h0.1 h1.1 (by omega) (by omega)
  have e2 : wrap64 (wrap64 d0 * d1) = d0 * d1 := by rw [e1]; exact wrap_in _ (by omega)
  refine ⟨rfl, e1, e2, fun k => ?_⟩
  match k with
  | 0 => show 1 ≤ (1 : Int) ∧ (1 : Int) ≤ 256; omega
  | 1 => show 1 ≤ wrap64 d0 ∧ wrap64 d0 ≤ 256; rw [e1]; omega
  | 2 => show 1 ≤ wrap64 (wrap64 d0 * d1) ∧ wrap64 (wrap64 d0 * d1) ≤ 256; rw [e2]; omega

/-- Within, along one axis. -/
def inK (d0 d1 d2 p0 p1 p2 : Int) (k : Fin 3) : Prop := 0 ≤ dimAt p0 p1 p2 k ∧ dimAt p0 p1 p2 k < dimAt d0 d1 d2 k
theorem inD_of {d0 d1 d2 p0 p1 p2 : Int} (h : ∀ k ∈ [0, 1, 2], inK d0 d1 d2 p0 p1 p2 k) : inD d0 d1 d2 p0 p1 p2 := ⟨h 0 (by simp), h 1 (by simp), h 2 (by simp)⟩
theorem inK_of {d0 d1 d2 p0 p1 p2 : Int} (h : inD d0 d1 d2 p0 p1 p2) (k : Fin 3) : inK d0 d1 d2 p0 p1 p2 k := by
  obtain ⟨a, b, c⟩ := h
  match k with
  | 0 => exact a
  | 1 => exact b
  | 2 => exact c

def numL (d0 d1 p0 p1 p2 : Int) (pre : List (Fin 3)) : Int := pre.foldl (fun s k => s + dimAt p0 p1 p2 k * strd d0 d1 k) 0
theorem num_bd {d0 d1 d2 p0 p1 p2 : Int} (h : mayD d0 d1 d2) (k : Fin 3) (hk : inK d0 d1 d2 p0 p1 p2 k) : 0 ≤ dimAt p0 p1 p2 k * strd d0 d1 k ∧ dimAt p0 p1 p2 k * strd d0 d1 k ≤ 4096 := by
  have hd := dimAt_ok h k
  have hs := (strd_ok h).2.2.2 k
  unfold okD at hd
  unfold inK at hk
  have := mul_bd (a := dimAt p0 p1 p2 k) (b := strd d0 d1 k) (M := 16) (N := 256) (by omega) (by omega) (by omega) (by omega)
  omega
theorem numL_bd {d0 d1 d2 p0 p1 p2 : Int} (h : mayD d0 d1 d2) : ∀ (pre : List (Fin 3)) (s : Int), (∀ k ∈ pre, inK d0 d1 d2 p0 p1 p2 k) → 0 ≤ s →
    s ≤ pre.foldl (fun s k => s + dimAt p0 p1 p2 k * strd d0 d1 k) s ∧ pre.foldl (fun s k => s + dimAt p0 p1 p2 k * strd d0 d1 k) s ≤ s + 4096 * pre.length
  | [], s, _, hs => ⟨Int.le_refl _, by simp⟩
  | k :: r, s, hp, hs => by
    have hb := num_bd h k (hp k (by simp))
    have ih := numL_bd h r (s + dimAt p0 p1 p2 k * strd d0 d1 k) (fun j hj => hp j (by simp [hj])) (by omega)
    simp only [List.foldl_cons, List.length_cons]
    refine ⟨Int.le_trans (by omega) ih.1, Int.le_trans ih.2 ?_⟩
    omega
theorem numL_snoc {d0 d1 d2 p0 p1 p2 : Int} (h : mayD d0 d1 d2) (pre : List (Fin 3)) (x : Fin 3) (hl : pre.length < 3) (hp : ∀ k ∈ pre, inK d0 d1 d2 p0 p1 p2 k) (hx : inK d0 d1 d2 p0 p1 p2 x) :
    wrap64 (numL d0 d1 p0 p1 p2 pre + wrap64 (dimAt p0 p1 p2 x * strd d0 d1 x)) = numL d0 d1 p0 p1 p2 (pre ++ [x]) := by
  have hb := num_bd h x hx
  have hn := numL_bd h pre 0 hp (Int.le_refl _)
  have e : numL d0 d1 p0 p1 p2 (pre ++ [x]) = numL d0 d1 p0 p1 p2 pre + dimAt p0 p1 p2 x * strd d0 d1 x := by simp [numL]
  rw [e, wrap_in (dimAt p0 p1 p2 x * strd d0 d1 x) (by omega)]
  refine wrap_in _ ?_
  unfold numL
  omega
theorem numL_all {d0 d1 d2 p0 p1 p2 : Int} (h : mayD d0 d1 d2) : numL d0 d1 p0 p1 p2 [0, 1, 2] = numD d0 d1 p0 p1 p2 := by
  obtain ⟨e0, e1, e2, _⟩ := strd_ok h
  simp only [numL, List.foldl_cons, List.foldl_nil, dimAt, e0, e1, e2, numD]
  have e : p2 * (d0 * d1) = d0 * (d1 * p2) := by rw [Int.mul_comm p2, Int.mul_assoc]
  rw [Int.mul_add, e, Int.mul_comm p1 d0]
  omega

/-- A midplane's coordinate along an axis. -/
def crd (d0 d1 d2 m : Int) (k : Fin 3) : Int := m / strd d0 d1 k % dimAt d0 d1 d2 k
def crdL (d0 d1 d2 m : Int) (pre : List (Fin 3)) (k : Fin 3) : Int := if k ∈ pre then crd d0 d1 d2 m k else 0
theorem crdL_same (d0 d1 d2 m : Int) (pre : List (Fin 3)) (k : Fin 3) : crdL d0 d1 d2 m (pre ++ [k]) k = crd d0 d1 d2 m k := by simp [crdL]
theorem crdL_other (d0 d1 d2 m : Int) (pre : List (Fin 3)) {k j : Fin 3} (h : k ≠ j) : crdL d0 d1 d2 m (pre ++ [j]) k = crdL d0 d1 d2 m pre k := by simp [crdL, h]

/-- The three coordinates, said without strides. -/
def cx (d0 m : Int) : Int := m % d0
def cy (d0 d1 m : Int) : Int := m / d0 % d1
def cz (d0 d1 m : Int) : Int := m / d0 / d1
theorem N_bd {d0 d1 d2 : Int} (h : mayD d0 d1 d2) : 1 ≤ d0 * d1 * d2 ∧ d0 * d1 * d2 ≤ 4096 := by
  obtain ⟨h0, h1, h2⟩ := h
  unfold okD at h0 h1 h2
  have hp : 0 ≤ d0 * d1 ∧ d0 * d1 ≤ 16 * 16 := mul_bd (by omega) h0.2 (by omega) h1.2
  have hp1 : 1 * 1 ≤ d0 * d1 := Int.mul_le_mul h0.1 h1.1 (by omega) (by omega)
  have hq : 0 ≤ d0 * d1 * d2 ∧ d0 * d1 * d2 ≤ 256 * 16 := mul_bd hp.1 (by omega) (by omega) h2.2
  have hq1 : 1 * 1 ≤ d0 * d1 * d2 := Int.mul_le_mul (by omega) h2.1 (by omega) (by omega)
  omega
theorem cz_lt {d0 d1 d2 m : Int} (h : mayD d0 d1 d2) (hm : 0 ≤ m ∧ m < d0 * d1 * d2) : 0 ≤ cz d0 d1 m ∧ cz d0 d1 m < d2 := by
  obtain ⟨h0, h1, h2⟩ := h
  unfold okD at h0 h1 h2
  unfold cz
  have a : 0 ≤ m / d0 := Int.ediv_nonneg hm.1 (by omega)
  refine ⟨Int.ediv_nonneg a (by omega), ?_⟩
  refine Int.ediv_lt_of_lt_mul (by omega) ?_
  refine Int.ediv_lt_of_lt_mul (by omega) ?_
  rw [show d2 * d1 * d0 = d0 * d1 * d2 by rw [Int.mul_comm d2, Int.mul_comm (d1 * d2), Int.mul_assoc]]
  exact hm.2
theorem crd_all {d0 d1 d2 m : Int} (h : mayD d0 d1 d2) (hm : 0 ≤ m ∧ m < d0 * d1 * d2) : crd d0 d1 d2 m 0 = cx d0 m ∧ crd d0 d1 d2 m 1 = cy d0 d1 m ∧ crd d0 d1 d2 m 2 = cz d0 d1 m := by
  obtain ⟨e0, e1, e2, _⟩ := strd_ok h
  have hz := cz_lt h hm
  have h0 := h.1
  unfold okD at h0
  refine ⟨?_, ?_, ?_⟩
  · simp [crd, e0, dimAt, cx]
  · simp [crd, e1, dimAt, cy]
  · simp only [crd, e2, dimAt]
    have e : m / (d0 * d1) = m / d0 / d1 := by
      rw [Int.ediv_ediv, if_neg (fun hx => by omega)]; omega
    rw [e]
    exact Int.emod_eq_of_lt hz.1 hz.2
/-- A midplane's coordinates are within, and lead back. -/
theorem inD_of_node {d0 d1 d2 m : Int} (h : mayD d0 d1 d2) (hm : 0 ≤ m ∧ m < d0 * d1 * d2) : inD d0 d1 d2 (cx d0 m) (cy d0 d1 m) (cz d0 d1 m) := by
  have hz := cz_lt h hm
  obtain ⟨h0, h1, h2⟩ := h
  unfold okD at h0 h1 h2
  exact ⟨⟨Int.emod_nonneg _ (by omega), Int.emod_lt_of_pos _ (by omega)⟩, ⟨Int.emod_nonneg _ (by omega), Int.emod_lt_of_pos _ (by omega)⟩, hz⟩
theorem num_of_node {d0 d1 m : Int} : numD d0 d1 (cx d0 m) (cy d0 d1 m) (cz d0 d1 m) = m := by
  unfold numD cx cy cz
  have a := Int.emod_add_mul_ediv m d0
  have b := Int.emod_add_mul_ediv (m / d0) d1
  rw [b]; exact a

/-- The midplane some steps on along an axis. -/
def onD (d0 d1 d2 m : Int) (k : Fin 3) (n : Int) : Int :=
  match k with
  | 0 => numD d0 d1 ((cx d0 m + n) % d0) (cy d0 d1 m) (cz d0 d1 m)
  | 1 => numD d0 d1 (cx d0 m) ((cy d0 d1 m + n) % d1) (cz d0 d1 m)
  | 2 => numD d0 d1 (cx d0 m) (cy d0 d1 m) ((cz d0 d1 m + n) % d2)
theorem inD_on {d0 d1 d2 m : Int} (h : mayD d0 d1 d2) (hm : 0 ≤ m ∧ m < d0 * d1 * d2) (n : Int) :
    inD d0 d1 d2 ((cx d0 m + n) % d0) (cy d0 d1 m) (cz d0 d1 m) ∧ inD d0 d1 d2 (cx d0 m) ((cy d0 d1 m + n) % d1) (cz d0 d1 m) ∧ inD d0 d1 d2 (cx d0 m) (cy d0 d1 m) ((cz d0 d1 m + n) % d2) := by
  obtain ⟨a, b, c⟩ := inD_of_node h hm
  obtain ⟨h0, h1, h2⟩ := h
  unfold okD at h0 h1 h2
  exact ⟨⟨⟨Int.emod_nonneg _ (by omega), Int.emod_lt_of_pos _ (by omega)⟩, b, c⟩, ⟨a, ⟨Int.emod_nonneg _ (by omega), Int.emod_lt_of_pos _ (by omega)⟩, c⟩, ⟨a, b, ⟨Int.emod_nonneg _ (by omega), Int.emod_lt_of_pos _ (by omega)⟩⟩⟩
theorem tmod_bd (n d : Int) (h : 1 ≤ d) : -d < n.tmod d ∧ n.tmod d < d ∧ ∀ c, (c + n.tmod d) % d = (c + n) % d := by
  have e := Int.tmod_add_mul_tdiv n d
  have hl : n.tmod d < d := Int.tmod_lt_of_pos _ (by omega)
  have hg : -d < n.tmod d := by
    rcases Int.lt_or_le n 0 with hn | hn
    · have := Int.tmod_lt_of_pos (-n) (b := d) (by omega)
      rw [Int.neg_tmod] at this; omega
    · have := Int.tmod_nonneg d hn; omega
  refine ⟨hg, hl, fun c => ?_⟩
  have h2 : c + n = (c + n.tmod d) + d * n.tdiv d := by omega
  rw [h2, Int.add_mul_emod_self_left]

def minI (a b : Int) : Int := if b < a then b else a
/-- How far apart along one axis of n. -/
def ring (n p q : Int) : Int := minI ((q - p) % n) (n - (q - p) % n)
theorem ring_bd {n p q : Int} (h1 : 1 ≤ n) (h2 : n ≤ 16) : 0 ≤ ring n p q ∧ ring n p q ≤ 16 := by
  have a := Int.emod_nonneg (q - p) (b := n) (by omega)
  have b := Int.emod_lt_of_pos (q - p) (b := n) (by omega)
  unfold ring minI
  split <;> omega
def ringK (d0 d1 d2 p0 p1 p2 q0 q1 q2 : Int) (k : Fin 3) : Int := ring (dimAt d0 d1 d2 k) (dimAt p0 p1 p2 k) (dimAt q0 q1 q2 k)
def ringL (d0 d1 d2 p0 p1 p2 q0 q1 q2 : Int) (pre : List (Fin 3)) : Int := pre.foldl (fun s k => s + ringK d0 d1 d2 p0 p1 p2 q0 q1 q2 k) 0
theorem ringL_bd {d0 d1 d2 p0 p1 p2 q0 q1 q2 : Int} (h : mayD d0 d1 d2) : ∀ (pre : List (Fin 3)) (s : Int), 0 ≤ s →
    s ≤ pre.foldl (fun s k => s + ringK d0 d1 d2 p0 p1 p2 q0 q1 q2 k) s ∧ pre.foldl (fun s k => s + ringK d0 d1 d2 p0 p1 p2 q0 q1 q2 k) s ≤ s + 16 * pre.length
  | [], s, hs => ⟨Int.le_refl _, by simp⟩
  | k :: r, s, hs => by
    have hd := dimAt_ok h k
    unfold okD at hd
    have hb := ring_bd (p := dimAt p0 p1 p2 k) (q := dimAt q0 q1 q2 k) hd.1 hd.2
    have ih := ringL_bd (p0 := p0) (p1 := p1) (p2 := p2) (q0 := q0) (q1 := q1) (q2 := q2) h r (s + ringK d0 d1 d2 p0 p1 p2 q0 q1 q2 k) (by unfold ringK; omega)
    simp only [List.foldl_cons, List.length_cons]
    unfold ringK at ih ⊢
    refine ⟨Int.le_trans (by omega) ih.1, Int.le_trans ih.2 ?_⟩
    omega
theorem ringL_snoc {d0 d1 d2 p0 p1 p2 q0 q1 q2 : Int} (h : mayD d0 d1 d2) (pre : List (Fin 3)) (x : Fin 3) (hl : pre.length < 3) :
    wrap64 (ringL d0 d1 d2 p0 p1 p2 q0 q1 q2 pre + ringK d0 d1 d2 p0 p1 p2 q0 q1 q2 x) = ringL d0 d1 d2 p0 p1 p2 q0 q1 q2 (pre ++ [x]) := by
  have hd := dimAt_ok h x
  unfold okD at hd
  have hb := ring_bd (p := dimAt p0 p1 p2 x) (q := dimAt q0 q1 q2 x) hd.1 hd.2
  have hn := ringL_bd (p0 := p0) (p1 := p1) (p2 := p2) (q0 := q0) (q1 := q1) (q2 := q2) h pre 0 (Int.le_refl _)
  have e : ringL d0 d1 d2 p0 p1 p2 q0 q1 q2 (pre ++ [x]) = ringL d0 d1 d2 p0 p1 p2 q0 q1 q2 pre + ringK d0 d1 d2 p0 p1 p2 q0 q1 q2 x := by simp [ringL]
  rw [e]
  refine wrap_in _ ?_
  unfold ringL
  unfold ringK
  unfold ringK at hn
  omega
/-- How far two midplanes are apart. -/
def farD (d0 d1 d2 a b : Int) : Int := ring d0 (cx d0 a) (cx d0 b) + ring d1 (cy d0 d1 a) (cy d0 d1 b) + ring d2 (cz d0 d1 a) (cz d0 d1 b)
theorem ringL_all (d0 d1 d2 a b : Int) : ringL d0 d1 d2 (cx d0 a) (cy d0 d1 a) (cz d0 d1 a) (cx d0 b) (cy d0 d1 b) (cz d0 d1 b) [0, 1, 2] = farD d0 d1 d2 a b := by
  simp [ringL, ringK, farD, dimAt]

/-- Coordinates that are within lead to a midplane whose coordinates they are. -/
theorem node_of_in {d0 d1 d2 p0 p1 p2 : Int} (h : mayD d0 d1 d2) (hp : inD d0 d1 d2 p0 p1 p2) :
    (0 ≤ numD d0 d1 p0 p1 p2 ∧ numD d0 d1 p0 p1 p2 < d0 * d1 * d2) ∧ cx d0 (numD d0 d1 p0 p1 p2) = p0 ∧ cy d0 d1 (numD d0 d1 p0 p1 p2) = p1 ∧ cz d0 d1 (numD d0 d1 p0 p1 p2) = p2 := by
  obtain ⟨h0, h1, h2⟩ := h
  unfold okD at h0 h1 h2
  obtain ⟨a, b, c⟩ := hp
  have e1 : (p1 + d1 * p2) / d1 = p2 := by
    rw [Int.add_mul_ediv_left _ _ (by omega), Int.ediv_eq_zero_of_lt b.1 b.2]; omega
  have e2 : (p1 + d1 * p2) % d1 = p1 := by
    rw [Int.add_mul_emod_self_left, Int.emod_eq_of_lt b.1 b.2]
  have e3 : numD d0 d1 p0 p1 p2 / d0 = p1 + d1 * p2 := by
    unfold numD
    rw [Int.add_mul_ediv_left _ _ (by omega), Int.ediv_eq_zero_of_lt a.1 a.2]; omega
  have e4 : numD d0 d1 p0 p1 p2 % d0 = p0 := by
    unfold numD
    rw [Int.add_mul_emod_self_left, Int.emod_eq_of_lt a.1 a.2]
  have n1 : 0 ≤ d1 * p2 := Int.mul_nonneg (by omega) c.1
  have n2 : d1 * p2 ≤ d1 * (d2 - 1) := Int.mul_le_mul_of_nonneg_left (by omega) (by omega)
  rw [Int.mul_sub, Int.mul_one] at n2
  have n3 : 0 ≤ d0 * (p1 + d1 * p2) := Int.mul_nonneg (by omega) (by omega)
  have n4 : d0 * (p1 + d1 * p2) ≤ d0 * (d1 * d2 - 1) := Int.mul_le_mul_of_nonneg_left (by omega) (by omega)
  rw [Int.mul_sub, Int.mul_one, ← Int.mul_assoc] at n4
  refine ⟨⟨by unfold numD; omega, by unfold numD; omega⟩, e4, ?_, ?_⟩
  · unfold cy; rw [e3, e2]
  · unfold cz; rw [e3, e1]

end Go.Proofs.YtbedhpooeabehaaGreatDoor

/-
  Plain arithmetic: steps on a torus add up, lead round, and do not hang on each other; how far midplanes are apart. No program is named here.
-/
namespace Go.Proofs.YtbedhpooeabehaaGreatDoor
open Go.RowKit

/-- What a step makes of the coordinates. -/
theorem on_coords {d0 d1 d2 m : Int} (h : mayD d0 d1 d2) (hm : 0 ≤ m ∧ m < d0 * d1 * d2) (k : Fin 3) (n : Int) :
    (0 ≤ onD d0 d1 d2 m k n ∧ onD d0 d1 d2 m k n < d0 * d1 * d2) ∧
    cx d0 (onD d0 d1 d2 m k n) = (if k = 0 then (cx d0 m + n) % d0 else cx d0 m) ∧
    cy d0 d1 (onD d0 d1 d2 m k n) = (if k = 1 then (cy d0 d1 m + n) % d1 else cy d0 d1 m) ∧
    cz d0 d1 (onD d0 d1 d2 m k n) = (if k = 2 then (cz d0 d1 m + n) % d2 else cz d0 d1 m) := by
  obtain ⟨i0, i1, i2⟩ := inD_on h hm n
  match k with
  | 0 => exact node_of_in h i0
  | 1 => exact node_of_in h i1
  | 2 => exact node_of_in h i2
theorem on_node {d0 d1 d2 m : Int} (h : mayD d0 d1 d2) (hm : 0 ≤ m ∧ m < d0 * d1 * d2) (k : Fin 3) (n : Int) : 0 ≤ onD d0 d1 d2 m k n ∧ onD d0 d1 d2 m k n < d0 * d1 * d2 := (on_coords h hm k n).1

/-- Midplanes with the same coordinates are one. -/
theorem node_ext {d0 d1 m n : Int} (hx : cx d0 m = cx d0 n) (hy : cy d0 d1 m = cy d0 d1 n) (hz : cz d0 d1 m = cz d0 d1 n) : m = n := by
  rw [← num_of_node (d0 := d0) (d1 := d1) (m := m), hx, hy, hz, num_of_node]

theorem on_on {d0 d1 d2 m : Int} (h : mayD d0 d1 d2) (hm : 0 ≤ m ∧ m < d0 * d1 * d2) (k : Fin 3) (a b : Int) : onD d0 d1 d2 (onD d0 d1 d2 m k a) k b = onD d0 d1 d2 m k (a + b) := by
  obtain ⟨n1, x1, y1, z1⟩ := on_coords h hm k a
  obtain ⟨_, x2, y2, z2⟩ := on_coords h n1 k b
  obtain ⟨_, x3, y3, z3⟩ := on_coords h hm k (a + b)
  refine node_ext (d0 := d0) (d1 := d1) ?_ ?_ ?_
  · rw [x2, x3, x1]; split
    · rw [Int.emod_add_emod, Int.add_assoc]
    · rfl
  · rw [y2, y3, y1]; split
    · rw [Int.emod_add_emod, Int.add_assoc]
    · rfl
  · rw [z2, z3, z1]; split
    · rw [Int.emod_add_emod, Int.add_assoc]
    · rfl
theorem on_comm {d0 d1 d2 m : Int} (h : mayD d0 d1 d2) (hm : 0 ≤ m ∧ m < d0 * d1 * d2) (j k : Fin 3) (a b : Int) : onD d0 d1 d2 (onD d0 d1 d2 m j a) k b = onD d0 d1 d2 (onD d0 d1 d2 m k b) j a := by
  by_cases hjk : j = k
  · subst hjk; rw [on_on h hm, on_on h hm, Int.add_comm]
  · obtain ⟨n1, x1, y1, z1⟩ := on_coords h hm j a
    obtain ⟨_, x2, y2, z2⟩ := on_coords h n1 k b
    obtain ⟨n3, x3, y3, z3⟩ := on_coords h hm k b
    obtain ⟨_, x4, y4, z4⟩ := on_coords h n3 j a
    refine node_ext (d0 := d0) (d1 := d1) ?_ ?_ ?_
    · rw [x2, x4, x1, x3]
      by_cases e : j = 0
      · by_cases e' : k = 0
        · exact absurd (e.trans e'.symm) hjk
        · simp [e, e']
      · by_cases e' : k = 0 <;> simp [e, e']
    · rw [y2, y4, y1, y3]
      by_cases e : j = 1
      · by_cases e' : k = 1
        · exact absurd (e.trans e'.symm) hjk
        · simp [e, e']
      · by_cases e' : k = 1 <;> simp [e, e']
    · rw [z2, z4, z1, z3]
      by_cases e : j = 2
      · by_cases e' : k = 2
        · exact absurd (e.trans e'.symm) hjk
        · simp [e, e']
      · by_cases e' : k = 2 <;> simp [e, e']
theorem on_round {d0 d1 d2 m : Int} (h : mayD d0 d1 d2) (hm : 0 ≤ m ∧ m < d0 * d1 * d2) (k : Fin 3) (n : Int) (hn : n = 0 ∨ n = dimAt d0 d1 d2 k) : onD d0 d1 d2 m k n = m := by
  obtain ⟨ix, iy, iz⟩ := inD_of_node h hm
  obtain ⟨_, x1, y1, z1⟩ := on_coords h hm k n
  have e : ∀ c d : Int, 0 ≤ c → c < d → n = 0 ∨ n = d → (c + n) % d = c := by
    intro c d h1 h2 h3
    rcases h3 with h3 | h3
    · rw [h3, Int.add_zero, Int.emod_eq_of_lt h1 h2]
    · rw [h3, Int.add_emod_right, Int.emod_eq_of_lt h1 h2]
  refine node_ext (d0 := d0) (d1 := d1) ?_ ?_ ?_
  · rw [x1]; split
    · rename_i hk; subst hk; exact e _ _ ix.1 ix.2 hn
    · rfl
  · rw [y1]; split
    · rename_i hk; subst hk; exact e _ _ iy.1 iy.2 hn
    · rfl
  · rw [z1]; split
    · rename_i hk; subst hk; exact e _ _ iz.1 iz.2 hn
    · rfl

/-- How far apart on a ring, said without a remainder. -/
theorem ring_eq {n p q : Int} (hp : 0 ≤ p ∧ p < n) (hq : 0 ≤ q ∧ q < n) :
    (p ≤ q ∧ ((q - p ≤ n - (q - p) ∧ ring n p q = q - p) ∨ (n - (q - p) < q - p ∧ ring n p q = n - (q - p)))) ∨
    (q < p ∧ ((q - p + n ≤ p - q ∧ ring n p q = q - p + n) ∨ (p - q < q - p + n ∧ ring n p q = p - q))) := by
  have e : (q - p) % n = if p ≤ q then q - p else q - p + n := by
    split
    · exact Int.emod_eq_of_lt (by omega) (by omega)
    · rw [← Int.add_emod_right]; exact Int.emod_eq_of_lt (by omega) (by omega)
  unfold ring minI
  by_cases h : p ≤ q
  · rw [if_pos h] at e
    rw [e]
    by_cases h' : n - (q - p) < q - p
    · rw [if_pos h']; omega
    · rw [if_neg h']; omega
  · rw [if_neg h] at e
    rw [e]
    by_cases h' : n - (q - p + n) < q - p + n
    · rw [if_pos h']; omega
    · rw [if_neg h']; omega
theorem ring_sym {n p q : Int} (hp : 0 ≤ p ∧ p < n) (hq : 0 ≤ q ∧ q < n) : ring n p q = ring n q p := by
  have a := ring_eq hp hq
  have b := ring_eq hq hp
  omega
theorem ring_pos {n p q : Int} (hp : 0 ≤ p ∧ p < n) (hq : 0 ≤ q ∧ q < n) : 0 ≤ ring n p q ∧ (ring n p q = 0 ↔ p = q) := by
  have a := ring_eq hp hq
  omega
theorem ring_tri {n p q r : Int} (hp : 0 ≤ p ∧ p < n) (hq : 0 ≤ q ∧ q < n) (hr : 0 ≤ r ∧ r < n) : ring n p r ≤ ring n p q + ring n q r := by
  have a := ring_eq hp hq
  have b := ring_eq hq hr
  have c := ring_eq hp hr
  omega
theorem ring_step {n p : Int} (hp : 0 ≤ p ∧ p < n) : ring n p ((p + 1) % n) = if 1 < n then 1 else 0 := by
  have e : (p + 1) % n = if p + 1 < n then p + 1 else 0 := by
    split
    · exact Int.emod_eq_of_lt (by omega) (by omega)
    · have : p + 1 = n := by omega
      rw [this, Int.emod_self]
  have hb : 0 ≤ (p + 1) % n ∧ (p + 1) % n < n := ⟨Int.emod_nonneg _ (by omega), Int.emod_lt_of_pos _ (by omega)⟩
  have a := ring_eq hp hb
  generalize (p + 1) % n = q at *
  split <;> split at e <;> omega
theorem ring_self {n p : Int} (hp : 0 ≤ p ∧ p < n) : ring n p p = 0 := (ring_pos hp hp).2.2 rfl

theorem far_bd {d0 d1 d2 : Int} (h : mayD d0 d1 d2) (a b : Int) : 0 ≤ farD d0 d1 d2 a b ∧ farD d0 d1 d2 a b ≤ 48 := by
  obtain ⟨h0, h1, h2⟩ := h
  unfold okD at h0 h1 h2
  have x := ring_bd (p := cx d0 a) (q := cx d0 b) h0.1 h0.2
  have y := ring_bd (p := cy d0 d1 a) (q := cy d0 d1 b) h1.1 h1.2
  have z := ring_bd (p := cz d0 d1 a) (q := cz d0 d1 b) h2.1 h2.2
  unfold farD
  omega
theorem far_sym {d0 d1 d2 a b : Int} (h : mayD d0 d1 d2) (ha : 0 ≤ a ∧ a < d0 * d1 * d2) (hb : 0 ≤ b ∧ b < d0 * d1 * d2) : farD d0 d1 d2 a b = farD d0 d1 d2 b a := by
  obtain ⟨a0, a1, a2⟩ := inD_of_node h ha
  obtain ⟨b0, b1, b2⟩ := inD_of_node h hb
  unfold farD
  rw [ring_sym a0 b0, ring_sym a1 b1, ring_sym a2 b2]
theorem far_zero {d0 d1 d2 a b : Int} (h : mayD d0 d1 d2) (ha : 0 ≤ a ∧ a < d0 * d1 * d2) (hb : 0 ≤ b ∧ b < d0 * d1 * d2) : farD d0 d1 d2 a b = 0 ↔ a = b := by
  obtain ⟨a0, a1, a2⟩ := inD_of_node h ha
  obtain ⟨b0, b1, b2⟩ := inD_of_node h hb
  have x := ring_pos a0 b0
  have y := ring_pos a1 b1
  have z := ring_pos a2 b2
  constructor
  · intro hf
    unfold farD at hf
    exact node_ext (d0 := d0) (d1 := d1) (x.2.1 (by omega)) (y.2.1 (by omega)) (z.2.1 (by omega))
  · intro e
    subst e
    unfold farD
    rw [ring_self a0, ring_self a1, ring_self a2]; rfl
theorem far_tri {d0 d1 d2 a b c : Int} (h : mayD d0 d1 d2) (ha : 0 ≤ a ∧ a < d0 * d1 * d2) (hb : 0 ≤ b ∧ b < d0 * d1 * d2) (hc : 0 ≤ c ∧ c < d0 * d1 * d2) :
    farD d0 d1 d2 a c ≤ farD d0 d1 d2 a b + farD d0 d1 d2 b c := by
  obtain ⟨a0, a1, a2⟩ := inD_of_node h ha
  obtain ⟨b0, b1, b2⟩ := inD_of_node h hb
  obtain ⟨c0, c1, c2⟩ := inD_of_node h hc
  have x := ring_tri a0 b0 c0
  have y := ring_tri a1 b1 c1
  have z := ring_tri a2 b2 c2
  unfold farD
  omega
theorem far_on {d0 d1 d2 a : Int} (h : mayD d0 d1 d2) (ha : 0 ≤ a ∧ a < d0 * d1 * d2) (k : Fin 3) : farD d0 d1 d2 a (onD d0 d1 d2 a k 1) = if 1 < dimAt d0 d1 d2 k then 1 else 0 := by
  obtain ⟨a0, a1, a2⟩ := inD_of_node h ha
  obtain ⟨_, x1, y1, z1⟩ := on_coords h ha k 1
  unfold farD
  rw [x1, y1, z1]
  match k with
  | 0 => simp [ring_step a0, ring_self a1, ring_self a2, dimAt]; rfl
  | 1 => simp [ring_step a1, ring_self a0, ring_self a2, dimAt]; rfl
  | 2 => simp [ring_step a2, ring_self a0, ring_self a1, dimAt]; rfl

/-- Some steps on or back, no more than the way: just the whole way leads there. -/
theorem ring_hit {n p q j : Int} (hp : 0 ≤ p ∧ p < n) (hq : 0 ≤ q ∧ q < n) (h0 : 0 ≤ j) (hj : j ≤ ring n p q) : (j < ring n p q ↔ ((p + j) % n ≠ q ∧ (p + -j) % n ≠ q)) := by
  have a := ring_eq hp hq
  have hle : ring n p q ≤ n := by omega
  have e1 : (p + j) % n = p + j ∨ (p + j) % n = p + j - n := by
    rcases Int.lt_or_le (p + j) n with h | h
    · exact .inl (Int.emod_eq_of_lt (by omega) h)
    · right
      rw [← Int.sub_emod_right]
      exact Int.emod_eq_of_lt (by omega) (by omega)
  have e2 : (p + -j) % n = p + -j ∨ (p + -j) % n = p + -j + n := by
    rcases Int.lt_or_le (p + -j) 0 with h | h
    · right
      rw [← Int.add_emod_right]
      exact Int.emod_eq_of_lt (by omega) (by omega)
    · exact .inl (Int.emod_eq_of_lt h (by omega))
  have b1 : 0 ≤ (p + j) % n ∧ (p + j) % n < n := ⟨Int.emod_nonneg _ (by omega), Int.emod_lt_of_pos _ (by omega)⟩
  have b2 : 0 ≤ (p + -j) % n ∧ (p + -j) % n < n := ⟨Int.emod_nonneg _ (by omega), Int.emod_lt_of_pos _ (by omega)⟩
  generalize (p + j) % n = u at *
  generalize (p + -j) % n = v at *
  generalize ring n p q = r at *
  constructor
  · intro h; constructor <;> omega
  · rintro ⟨h1, h2⟩
    rcases Int.lt_or_le j r with h | h
    · exact h
    · omega

end Go.Proofs.YtbedhpooeabehaaGreatDoor

/-
  pos.axes hands out the three axes, each with its stride, and stops where a round says so; whatever dimensions it is given.
-/
namespace Go.Proofs.YtbedhpooeabehaaGreatDoor
open Go.RowKit Go.Shelf

attribute [local go_sem] Oper.semAt_some

def axI (k : Fin 3) : Int := match k with | 0 => 0 | 1 => 1 | 2 => 2
abbrev axEnc (d0 d1 : Int) (k : Fin 3) : Array Value := #[.int .i64 (axI k), .int .i64 (strd d0 d1 k)]

theorem fin3 : ∀ x : Fin 3, x = 0 ∨ x = 1 ∨ x = 2 := by decide

theorem axes_in (F : Fence) (n : Nat) (hF : F.fn 59) (hro : F.round = none) (d0 d1 d2 : Int) (w : World) :
    CallsIn F n Tryz.prog 59 #[A3 d0 d1 d2] w fun e w' => e = .returned (.func (.func 75) #[] #[.pointer (some ⟨w.heap.size, 0, none⟩)]) ∧ w' = w.alloc (.cells #[I d0, I d1, I d2] 23) := by
  refine callsIn_of_wp Tryz.func59 rfl hF ?_ hro
  simp only [Tryz.ntmps59, List.size_toArray, List.length_cons, List.length_nil, Nat.reduceAdd, Nat.reduceSub, Array.replicate_succ, Array.replicate_zero, List.push_toArray, List.append_toArray, List.nil_append, List.cons_append]
  gi_wp2
  go_ret
  exact ⟨rfl, rfl⟩

set_option maxRecDepth 100000 in
set_option maxHeartbeats 2000000 in
theorem axes_stops (F : Fence) (n : Nat) (hF : F.fn 75) (hro : F.round = none) (hn : 1 ≤ n) (Bn : Nat) (d0 d1 d2 : Int) (w : World)
    (hlt : Bn < w.heap.size) (h0 : w.cell? ⟨Bn, 0, none⟩ = some (I d0)) (h1 : w.cell? ⟨Bn, 1, none⟩ = some (I d1)) (h2 : w.cell? ⟨Bn, 2, none⟩ = some (I d2)) :
    SeqStopsK F n Tryz.prog 75 #[.pointer (some ⟨Bn, 0, none⟩)] (axEnc d0 d1) (fun _ _ => True) (fun xs => xs = [0, 1, 2]) (fun pre => pre <+: [0, 1, 2]) 3 w := fun l J Jx W hW hJ hJx hY hJ0 => by
  have c0 : W.cell? ⟨Bn, 0, none⟩ = some (I d0) := (hW.cell (p := ⟨Bn, 0, none⟩) hlt).trans h0
  have c1 : W.cell? ⟨Bn, 1, none⟩ = some (I d1) := (hW.cell (p := ⟨Bn, 1, none⟩) hlt).trans h1
  have c2 : W.cell? ⟨Bn, 2, none⟩ = some (I d2) := (hW.cell (p := ⟨Bn, 2, none⟩) hlt).trans h2
  refine callsIn_of_wp Tryz.func75 rfl hF ?_ hro
  simp only [Tryz.ntmps75, List.size_toArray, List.length_cons, List.length_nil, Nat.reduceAdd, Nat.reduceSub, Array.replicate_succ, Array.replicate_zero, List.push_toArray, List.append_toArray, List.nil_append, List.cons_append]
  have i0 : ∀ w, (Instr.index 23 (A3 d0 d1 d2) (.int .i64 0)).run Tryz.prog w = .ok (I d0) w := fun _ => by kernel_rfl
  have i1 : ∀ w, (Instr.index 23 (A3 d0 d1 d2) (.int .i64 1)).run Tryz.prog w = .ok (I d1) w := fun _ => by kernel_rfl
  have i2 : ∀ w, (Instr.index 23 (A3 d0 d1 d2) (.int .i64 2)).run Tryz.prog w = .ok (I d2) w := fun _ => by kernel_rfl
  gi_wp2
  gi_loopw [3, 7] (fun s i wr => (i = .int .i64 0 ∧ s = .int .i64 1 ∧ J [] wr) ∨ (i = .int .i64 1 ∧ s = .int .i64 (wrap64 d0) ∧ J [0] wr) ∨ (i = .int .i64 2 ∧ s = .int .i64 (wrap64 (wrap64 d0 * d1)) ∧ J [0, 1] wr) ∨ (i = .int .i64 3 ∧ J [0, 1, 2] wr)) (fun _ i _ => 3 - (RowKit.intOf i).toNat)
  case atStart => exact .inl ⟨rfl, rfl, hJ0⟩
  case round =>
    rcases hrel with ⟨rfl, rfl, hj⟩ | ⟨rfl, rfl, hj⟩ | ⟨rfl, rfl, hj⟩ | ⟨rfl, hj⟩
    · obtain ⟨f1, t1, a1, b1, hy1, hR1⟩ := hY [] 0 wr hj (by simp)
      simp only [axEnc, axI, strd] at hy1
      gi_wp2
      refine hR1.mono ?_
      rintro e W3 (⟨rfl, hJ3, _⟩ | ⟨rfl, hJx3⟩)
      · gi_wp2
        go_roundw
        case rel => exact .inr (.inl ⟨rfl, by first | rfl | simp, hJ3⟩)
        case measure => simp [RowKit.intOf]
      · gi_wp2
        refine bodyPost_ret (results_none rfl _ _ _) rfl ?_
        exact ⟨⟨_, rfl⟩, .inr ⟨_, by simp, hJx3⟩⟩
    · obtain ⟨f1, t1, a1, b1, hy1, hR1⟩ := hY [0] 1 wr hj (by simp)
      simp only [axEnc, axI, strd] at hy1
      gi_wp2
      refine hR1.mono ?_
      rintro e W3 (⟨rfl, hJ3, _⟩ | ⟨rfl, hJx3⟩)
      · gi_wp2
        go_roundw
        case rel => exact .inr (.inr (.inl ⟨rfl, rfl, hJ3⟩))
        case measure => simp [RowKit.intOf]
      · gi_wp2
        refine bodyPost_ret (results_none rfl _ _ _) rfl ?_
        exact ⟨⟨_, rfl⟩, .inr ⟨_, by simp, hJx3⟩⟩
    · obtain ⟨f1, t1, a1, b1, hy1, hR1⟩ := hY [0, 1] 2 wr hj (by simp)
      simp only [axEnc, axI, strd] at hy1
      gi_wp2
      refine hR1.mono ?_
      rintro e W3 (⟨rfl, hJ3, _⟩ | ⟨rfl, hJx3⟩)
      · gi_wp2
        go_roundw
        case rel => exact .inr (.inr (.inr ⟨rfl, hJ3⟩))
        case measure => simp [RowKit.intOf]
      · gi_wp2
        refine bodyPost_ret (results_none rfl _ _ _) rfl ?_
        exact ⟨⟨_, rfl⟩, .inr ⟨_, by simp, hJx3⟩⟩
    · gi_wp2
      go_end0
      exact ⟨⟨_, rfl⟩, .inl ⟨_, rfl, hj⟩⟩


/-- A loop over the axes, at the wide fence: what the loop's body keeps, a round at a time. -/
theorem wpIn_axes {g : Operand} {ps : Array Tmp} {assign body : Code} {Q : Exit → Act → World → Prop} {a : Act} {w : World} (Bn : Nat) (d0 d1 d2 : Int)
    (hg : a.eval g = .func (.func 75) #[] #[.pointer (some ⟨Bn, 0, none⟩)]) (hb : Blk w Bn 23 #[I d0, I d1, I d2]) (hps : ps.size = 2)
    (J : List (Fin 3) → World → Prop) (Jx : Code → List (Fin 3) → World → Prop) (hJ : OwnFrom w.heap.size J) (hJx : ∀ c, OwnFrom w.heap.size (Jx c)) (h0 : J [] w) (a₁ : Fin 3 → Act)
    (hassign : ∀ (l : Nat) (x : Fin 3) (W : World) (K : Act → World → Prop), K (a₁ x) W →
      assign.wpIn (Fence.wide.inRound l) 1 Tryz.prog (Exit.then K (fun _ _ _ => False)) { tmps := (ps.zip (axEnc d0 d1 x)).foldl (fun t (p, v) => t.setIfInBounds p v) a.tmps, defers := [] } W)
    (hbody : ∀ (l : Nat) (pre : List (Fin 3)) (x : Fin 3) (W : World), J pre W → pre.length < 3 → body.wpIn (Fence.wide.inRound l) 1 Tryz.prog (ownPostK (fun _ _ => True) J Jx (pre ++ [x]) W) (a₁ x) W)
    (hdone : ∀ (D : Nat) (W : World), w.heap.size ≤ D → J [0, 1, 2] W → W.heap[D]? = some (.deferred (some [])) → Q .normal { a with defers := { target := .collected D, args := #[] } :: a.defers } W)
    (hstop : ∀ (D : Nat) (c : Code) (pre : List (Fin 3)) (W : World), w.heap.size ≤ D → pre <+: [0, 1, 2] → Jx c pre W → W.heap[D]? = some (.deferred (some [])) → c.wpIn Fence.wide 3 Tryz.prog Q { a with defers := { target := .collected D, args := #[] } :: a.defers } W) :
    (Code.rangeFunc g ps assign body).wpIn Fence.wide 3 Tryz.prog Q a w :=
  wpIn_rangeFunc_ownF rfl (by omega) (gf := 75) (lb := #[.pointer (some ⟨Bn, 0, none⟩)]) hg trivial (enters_of Tryz.func75 (by kernel_rfl) rfl)
    (axes_stops Fence.wide 2 trivial rfl (by omega) Bn d0 d1 d2 w hb.lt (hb.cell 0) (hb.cell 1) (hb.cell 2)) (fun _ _ => trivial) (fun _ _ _ _ _ _ _ _ => trivial) (Below.refl _ _) (fun _ => hps.symm)
    J Jx hJ hJx h0 a₁ hassign hbody (fun D xs W hD hxs hj => by subst hxs; exact hdone D W hD hj) hstop

end Go.Proofs.YtbedhpooeabehaaGreatDoor

/-
  Plain arithmetic of cables: which midplanes steps along an axis lead to, listed rising; how many there are; lines are the same or apart. No program is named here.
-/
namespace Go.Proofs.YtbedhpooeabehaaGreatDoor
open Go.RowKit

theorem emod_inj {c d a b : Int} (hd : 0 < d) (ha : 0 ≤ a ∧ a < d) (hb : 0 ≤ b ∧ b < d) (e : (c + a) % d = (c + b) % d) : a = b := by
  have h1 := Int.emod_add_mul_ediv (c + a) d
  have h2 := Int.emod_add_mul_ediv (c + b) d
  rw [e] at h1
  generalize (c + b) % d = r at h1 h2
  generalize (c + a) / d = p at h1
  generalize (c + b) / d = q at h2
  have h3 : d * (p - q) = a - b := by rw [Int.mul_sub]; omega
  rcases Int.lt_trichotomy (p - q) 0 with h | h | h
  · have := Int.mul_le_mul_of_nonneg_left (show p - q ≤ -1 by omega) (Int.le_of_lt hd)
    omega
  · rw [h] at h3; omega
  · have := Int.mul_le_mul_of_nonneg_left (show 1 ≤ p - q by omega) (Int.le_of_lt hd)
    omega

/-- Two ways of less than the ring's length that lead to one midplane are the same. -/
theorem on_inj {d0 d1 d2 m : Int} (h : mayD d0 d1 d2) (hm : 0 ≤ m ∧ m < d0 * d1 * d2) (k : Fin 3) {a b : Int} (ha : 0 ≤ a ∧ a < dimAt d0 d1 d2 k) (hb : 0 ≤ b ∧ b < dimAt d0 d1 d2 k) (e : onD d0 d1 d2 m k a = onD d0 d1 d2 m k b) : a = b := by
  obtain ⟨_, x1, y1, z1⟩ := on_coords h hm k a
  obtain ⟨_, x2, y2, z2⟩ := on_coords h hm k b
  have hk := dimAt_ok h k
  unfold okD at hk
  rw [e] at x1 y1 z1
  match k, ha, hb, hk, x1, x2, y1, y2, z1, z2 with
  | 0, ha, hb, hk, x1, x2, _, _, _, _ => exact emod_inj (d := d0) (by simp only [dimAt] at hk; omega) ha hb (x1.symm.trans x2)
  | 1, ha, hb, hk, _, _, y1, y2, _, _ => exact emod_inj (d := d1) (by simp only [dimAt] at hk; omega) ha hb (y1.symm.trans y2)
  | 2, ha, hb, hk, _, _, _, _, z1, z2 => exact emod_inj (d := d2) (by simp only [dimAt] at hk; omega) ha hb (z1.symm.trans z2)

/-- Steps count but for the ring's length. -/
theorem on_mod {d0 d1 d2 m : Int} (h : mayD d0 d1 d2) (hm : 0 ≤ m ∧ m < d0 * d1 * d2) (k : Fin 3) (n : Int) : onD d0 d1 d2 m k (n % dimAt d0 d1 d2 k) = onD d0 d1 d2 m k n := by
  obtain ⟨_, x1, y1, z1⟩ := on_coords h hm k (n % dimAt d0 d1 d2 k)
  obtain ⟨_, x2, y2, z2⟩ := on_coords h hm k n
  refine node_ext (d0 := d0) (d1 := d1) ?_ ?_ ?_
  · rw [x1, x2]; split
    · rename_i e; subst e; exact Int.add_emod_emod ..
    · rfl
  · rw [y1, y2]; split
    · rename_i e; subst e; exact Int.add_emod_emod ..
    · rfl
  · rw [z1, z2]; split
    · rename_i e; subst e; exact Int.add_emod_emod ..
    · rfl

/-- One is among so many from another one on. -/
def amongW (d0 d1 d2 m : Int) (k : Fin 3) (many : Nat) (o : Int) : Bool := (List.range many).any fun i => decide (onD d0 d1 d2 m k (i : Int) = o)
theorem among_iff {d0 d1 d2 m : Int} {k : Fin 3} {many : Nat} {o : Int} : amongW d0 d1 d2 m k many o = true ↔ ∃ i : Nat, i < many ∧ onD d0 d1 d2 m k i = o := by
  simp [amongW, List.any_eq_true]

/-- Those, rising. -/
def nodesW (d0 d1 d2 m : Int) (k : Fin 3) (many : Nat) : List Nat := (List.range (d0 * d1 * d2).toNat).filter fun o => amongW d0 d1 d2 m k many (o : Int)
theorem nodes_rise (d0 d1 d2 m : Int) (k : Fin 3) (many : Nat) : (nodesW d0 d1 d2 m k many).Pairwise (· < ·) := (List.pairwise_lt_range).filter _
theorem nodes_mem {d0 d1 d2 m : Int} {k : Fin 3} {many : Nat} {o : Nat} : o ∈ nodesW d0 d1 d2 m k many ↔ (o : Int) < d0 * d1 * d2 ∧ ∃ i : Nat, i < many ∧ onD d0 d1 d2 m k i = (o : Int) := by
  unfold nodesW
  rw [List.mem_filter, List.mem_range, among_iff]
  constructor
  · rintro ⟨a, b⟩; exact ⟨by omega, b⟩
  · rintro ⟨a, b⟩; exact ⟨by omega, b⟩

theorem lenN_le : ∀ (a b : List Nat), a.Nodup → (∀ x ∈ a, x ∈ b) → a.length ≤ b.length
  | [], b, _, _ => Nat.zero_le _
  | x :: a, b, hn, hs => by
    have hx := hs x (by simp)
    have ih := lenN_le a (b.erase x) (List.nodup_cons.1 hn).2 fun y hy => by
      have hne : y ≠ x := fun e => (List.nodup_cons.1 hn).1 (e ▸ hy)
      exact (List.mem_erase_of_ne hne).2 (hs y (by simp [hy]))
    rw [List.length_erase_of_mem hx] at ih
    have : 0 < b.length := List.length_pos_of_mem hx
    simp only [List.length_cons]
    omega
/-- There are as many as steps. -/
theorem nodes_len {d0 d1 d2 m : Int} (h : mayD d0 d1 d2) (hm : 0 ≤ m ∧ m < d0 * d1 * d2) (k : Fin 3) {many : Nat} (hk : (many : Int) ≤ dimAt d0 d1 d2 k) : (nodesW d0 d1 d2 m k many).length = many := by
  have hn1 : (nodesW d0 d1 d2 m k many).Nodup := (nodes_rise d0 d1 d2 m k many).imp fun hab e => by omega
  have hn2 : ((List.range many).map fun i : Nat => (onD d0 d1 d2 m k (i : Int)).toNat).Nodup := by
    refine List.pairwise_map.2 ?_
    refine (List.pairwise_lt_range (n := many)).imp_of_mem fun {a b} ha hb hab e => ?_
    have ha' := List.mem_range.1 ha
    have hb' := List.mem_range.1 hb
    have n1 := on_node h hm k (a : Int)
    have n2 := on_node h hm k (b : Int)
    have := on_inj h hm k (a := (a : Int)) (b := (b : Int)) (by omega) (by omega) (by omega)
    omega
  have e : ∀ x, x ∈ nodesW d0 d1 d2 m k many ↔ x ∈ (List.range many).map fun i : Nat => (onD d0 d1 d2 m k (i : Int)).toNat := by
    intro x
    rw [nodes_mem, List.mem_map]
    constructor
    · rintro ⟨_, i, hi, ei⟩
      exact ⟨i, List.mem_range.2 hi, by rw [ei]; exact Int.toNat_natCast x⟩
    · rintro ⟨i, hi, rfl⟩
      have n1 := on_node h hm k (i : Int)
      exact ⟨by omega, i, List.mem_range.1 hi, by omega⟩
  have l1 := lenN_le _ _ hn1 fun x hx => (e x).1 hx
  have l2 := lenN_le _ _ hn2 fun x hx => (e x).2 hx
  simp only [List.length_map, List.length_range] at l1 l2
  omega
theorem nodes_more {d0 d1 d2 m : Int} {k : Fin 3} {many more : Nat} (h : many ≤ more) {o : Nat} (ho : o ∈ nodesW d0 d1 d2 m k many) : o ∈ nodesW d0 d1 d2 m k more := by
  obtain ⟨a, i, hi, e⟩ := nodes_mem.1 ho
  exact nodes_mem.2 ⟨a, i, by omega, e⟩

/-- Steps along the axis lead from one to the other. -/
def oneLine (d0 d1 d2 m o : Int) (k : Fin 3) : Bool := amongW d0 d1 d2 m k (dimAt d0 d1 d2 k).toNat o
theorem one_any {d0 d1 d2 m o : Int} (h : mayD d0 d1 d2) (hm : 0 ≤ m ∧ m < d0 * d1 * d2) (k : Fin 3) : oneLine d0 d1 d2 m o k = true ↔ ∃ n : Int, onD d0 d1 d2 m k n = o := by
  have hk := dimAt_ok h k
  unfold okD at hk
  unfold oneLine
  rw [among_iff]
  constructor
  · rintro ⟨i, _, e⟩; exact ⟨i, e⟩
  · rintro ⟨n, e⟩
    have h0 := Int.emod_nonneg n (show dimAt d0 d1 d2 k ≠ 0 by omega)
    have h1 := Int.emod_lt_of_pos n (show 0 < dimAt d0 d1 d2 k by omega)
    refine ⟨(n % dimAt d0 d1 d2 k).toNat, by omega, ?_⟩
    rw [Int.toNat_of_nonneg h0, on_mod h hm, e]
/-- Midplanes of one line have one line. -/
theorem line_same {d0 d1 d2 m o : Int} (h : mayD d0 d1 d2) (hm : 0 ≤ m ∧ m < d0 * d1 * d2) (ho : 0 ≤ o ∧ o < d0 * d1 * d2) (k : Fin 3) (h1 : oneLine d0 d1 d2 m o k = true) :
    nodesW d0 d1 d2 m k (dimAt d0 d1 d2 k).toNat = nodesW d0 d1 d2 o k (dimAt d0 d1 d2 k).toNat := by
  obtain ⟨n, e⟩ := (one_any h hm k).1 h1
  unfold nodesW
  refine List.filter_congr fun p _ => ?_
  rw [Bool.eq_iff_iff]
  show oneLine d0 d1 d2 m p k = true ↔ oneLine d0 d1 d2 o p k = true
  rw [one_any h hm, one_any h ho]
  constructor
  · rintro ⟨a, ea⟩
    exact ⟨a - n, by rw [← e, on_on h hm, show n + (a - n) = a by omega]; exact ea⟩
  · rintro ⟨a, ea⟩
    exact ⟨n + a, by rw [← on_on h hm, e]; exact ea⟩
/-- Lines that are not the same have no midplane in common. -/
theorem line_apart {d0 d1 d2 m o : Int} (h : mayD d0 d1 d2) (hm : 0 ≤ m ∧ m < d0 * d1 * d2) (ho : 0 ≤ o ∧ o < d0 * d1 * d2) (k : Fin 3) (h1 : oneLine d0 d1 d2 m o k = false) {p : Nat}
    (ha : p ∈ nodesW d0 d1 d2 m k (dimAt d0 d1 d2 k).toNat) (hb : p ∈ nodesW d0 d1 d2 o k (dimAt d0 d1 d2 k).toNat) : False := by
  obtain ⟨_, i, _, ei⟩ := nodes_mem.1 ha
  obtain ⟨_, j, _, ej⟩ := nodes_mem.1 hb
  have : oneLine d0 d1 d2 m o k = true := by
    rw [one_any h hm]
    refine ⟨i + -j, ?_⟩
    rw [← on_on h hm, ei, ← ej, on_on h ho, Int.add_right_neg]
    exact on_round h ho k 0 (.inl rfl)
  rw [this] at h1
  cases h1

/-- A cable's number. -/
def cabW (d0 d1 d2 : Int) (k : Fin 3) (o : Int) : Int := axI k * (d0 * d1 * d2) + o
theorem cab_bd {d0 d1 d2 o : Int} (h : mayD d0 d1 d2) (ho : 0 ≤ o ∧ o < d0 * d1 * d2) (k : Fin 3) :
    0 ≤ cabW d0 d1 d2 k o ∧ cabW d0 d1 d2 k o < 3 * (d0 * d1 * d2) ∧ cabW d0 d1 d2 k o / (d0 * d1 * d2) = axI k ∧ cabW d0 d1 d2 k o % (d0 * d1 * d2) = o := by
  have hN := N_bd h
  unfold cabW
  generalize d0 * d1 * d2 = N at *
  have e1 : (axI k * N + o) / N = axI k := by
    rw [Int.add_comm, Int.add_mul_ediv_right _ _ (by omega), Int.ediv_eq_zero_of_lt ho.1 ho.2, Int.zero_add]
  have e2 : (axI k * N + o) % N = o := by
    rw [Int.add_comm, Int.add_mul_emod_self_right, Int.emod_eq_of_lt ho.1 ho.2]
  refine ⟨?_, ?_, e1, e2⟩
  · match k with
    | 0 => simp only [axI]; omega
    | 1 => simp only [axI]; omega
    | 2 => simp only [axI]; omega
  · match k with
    | 0 => simp only [axI]; omega
    | 1 => simp only [axI]; omega
    | 2 => simp only [axI]; omega
theorem cab_inj {d0 d1 d2 o p : Int} {k : Fin 3} (e : cabW d0 d1 d2 k o = cabW d0 d1 d2 k p) : o = p := by
  unfold cabW at e
  omega

/-- The cables from so many midplanes on, rising; none, if there is but one along the axis. -/
def cablesW (d0 d1 d2 m : Int) (k : Fin 3) (many : Nat) : List Int := if 1 < dimAt d0 d1 d2 k then (nodesW d0 d1 d2 m k many).map (fun o : Nat => cabW d0 d1 d2 k (o : Int)) else []
theorem cables_mem {d0 d1 d2 m : Int} {k : Fin 3} {many : Nat} {n : Int} : n ∈ cablesW d0 d1 d2 m k many ↔ 1 < dimAt d0 d1 d2 k ∧ ∃ o ∈ nodesW d0 d1 d2 m k many, n = cabW d0 d1 d2 k (o : Int) := by
  unfold cablesW
  split
  · rename_i h
    rw [List.mem_map]
    constructor
    · rintro ⟨o, ho, e⟩; exact ⟨h, o, ho, e.symm⟩
    · rintro ⟨_, o, ho, e⟩; exact ⟨o, ho, e.symm⟩
  · rename_i h
    simp [h]
theorem cables_len {d0 d1 d2 m : Int} (h : mayD d0 d1 d2) (hm : 0 ≤ m ∧ m < d0 * d1 * d2) (k : Fin 3) {many : Nat} (hk : (many : Int) ≤ dimAt d0 d1 d2 k) :
    (cablesW d0 d1 d2 m k many).length = if 1 < dimAt d0 d1 d2 k then many else 0 := by
  unfold cablesW
  split
  · rw [List.length_map, nodes_len h hm k hk]
  · rfl
theorem cables_rise (d0 d1 d2 m : Int) (k : Fin 3) (many : Nat) : (cablesW d0 d1 d2 m k many).Pairwise (· < ·) := by
  unfold cablesW
  split
  · refine List.pairwise_map.2 ((nodes_rise d0 d1 d2 m k many).imp fun {a b} hab => ?_)
    unfold cabW
    omega
  · exact List.Pairwise.nil
theorem cables_more {d0 d1 d2 m : Int} {k : Fin 3} {many more : Nat} (h : many ≤ more) {n : Int} (hn : n ∈ cablesW d0 d1 d2 m k many) : n ∈ cablesW d0 d1 d2 m k more := by
  obtain ⟨a, o, ho, e⟩ := cables_mem.1 hn
  exact cables_mem.2 ⟨a, o, nodes_more h ho, e⟩
theorem cables_same {d0 d1 d2 m o : Int} (h : mayD d0 d1 d2) (hm : 0 ≤ m ∧ m < d0 * d1 * d2) (ho : 0 ≤ o ∧ o < d0 * d1 * d2) (k : Fin 3) (h1 : oneLine d0 d1 d2 m o k = true) :
    cablesW d0 d1 d2 m k (dimAt d0 d1 d2 k).toNat = cablesW d0 d1 d2 o k (dimAt d0 d1 d2 k).toNat := by
  unfold cablesW
  rw [line_same h hm ho k h1]
theorem cables_apart {d0 d1 d2 m o : Int} (h : mayD d0 d1 d2) (hm : 0 ≤ m ∧ m < d0 * d1 * d2) (ho : 0 ≤ o ∧ o < d0 * d1 * d2) (k : Fin 3) (h1 : oneLine d0 d1 d2 m o k = false) {n : Int}
    (ha : n ∈ cablesW d0 d1 d2 m k (dimAt d0 d1 d2 k).toNat) (hb : n ∈ cablesW d0 d1 d2 o k (dimAt d0 d1 d2 k).toNat) : False := by
  obtain ⟨_, p, hp, e⟩ := cables_mem.1 ha
  obtain ⟨_, q, hq, e'⟩ := cables_mem.1 hb
  have := cab_inj (e.symm.trans e')
  have hpq : p = q := by omega
  subst hpq
  exact line_apart h hm ho k h1 hp hq

end Go.Proofs.YtbedhpooeabehaaGreatDoor
