/-
  Plain arithmetic of places: the sets that a place takes, as rows of words; what it passes. No program is walked here.
-/
import Derived.Test.YtbedhpooeabehaaGreatDoorPart13
import Derived.Test.YtbedhpooeabehaaGreatDoorPart7
import Derived.Test.YtbedhpooeabehaaGreatDoorPart14
import Derived.Test.YtbedhpooeabehaaGreatDoorPart10
import Derived.Test.YtbedhpooeabehaaGreatDoorPart3
import Derived.Test.YtbedhpooeabehaaGreatDoorPart11
import Derived.Test.YtbedhpooeabehaaGreatDoorPart12
namespace Go.Proofs.YtbedhpooeabehaaGreatDoor
open Go Go.RowKit

/-- A place may be: its box is canonical, and a torus along no axis along which it is one long. -/
def mayP (d0 d1 d2 : Int) (b : Bx) (t0 t1 t2 : Bool) : Prop := mayB d0 d1 d2 b ∧ canonB d0 d1 d2 b = b ∧ ∀ k, tK t0 t1 t2 k = true → sAt b k ≠ 1
def torB (b : Bx) (t0 t1 t2 : Bool) : Bool := (t0 && b.a == 1) || (t1 && b.b == 1) || (t2 && b.c == 1)
theorem torB_iff {b : Bx} {t0 t1 t2 : Bool} : torB b t0 t1 t2 = false ↔ ∀ k, tK t0 t1 t2 k = true → sAt b k ≠ 1 := by
  have e : (torB b t0 t1 t2 = false) ↔ ((t0 = true → b.a ≠ 1) ∧ (t1 = true → b.b ≠ 1) ∧ (t2 = true → b.c ≠ 1)) := by
    unfold torB
    cases t0 <;> cases t1 <;> cases t2 <;> simp [and_assoc]
  rw [e]
  constructor
  · rintro ⟨h0, h1, h2⟩ k
    rcases fin3 k with rfl | rfl | rfl
    · exact h0
    · exact h1
    · exact h2
  · intro h
    exact ⟨h 0, h 1, h 2⟩

theorem most_run {d0 d1 d2 : Int} {b : Bx} {t0 t1 t2 : Bool} (hp : mayP d0 d1 d2 b t0 t1 t2) (k : Fin 3) : mostW (dimAt d0 d1 d2 k) (sAt b k) (tK t0 t1 t2 k) = runS (dimAt d0 d1 d2 k) (sAt b k) (tK t0 t1 t2 k) := by
  have h1 := (mayB_at hp.1 k).1
  have h2 := hp.2.2 k
  unfold mostW runS
  cases ht : tK t0 t1 t2 k
  · simp
  · have := h2 ht
    rw [if_pos ⟨rfl, by omega⟩, if_pos rfl]

theorem takes_wired {d0 d1 d2 m : Int} {b : Bx} {t0 t1 t2 : Bool} (h : mayD d0 d1 d2) (hp : mayP d0 d1 d2 b t0 t1 t2) (hm : 0 ≤ m ∧ m < d0 * d1 * d2) {k : Fin 3} (ht : takes d0 d1 d2 b t0 t1 t2 k m = true) : 1 < dimAt d0 d1 d2 k := by
  have hd := dimAt_ok h k
  unfold okD at hd
  have hs := mayB_at hp.1 k
  unfold mayS at hs
  unfold takes boxK at ht
  have u := (upB_has.1 ht).1
  have hbd := aft_bd hs.2 (co_bd h hm k)
  unfold hasS at u
  have u := of_decide_eq_true u
  have h2 := hp.2.2 k
  unfold runS at u
  cases hk : tK t0 t1 t2 k
  · rw [hk, if_neg (by simp)] at u
    omega
  · have := h2 hk
    omega

/-- Its cables, as a set. -/
def cabsW (d0 d1 d2 : Int) (b : Bx) (t0 t1 t2 : Bool) : List Nat := setOf (3 * (d0 * d1 * d2)) (fun j : Nat => cabB d0 d1 d2 b t0 t1 t2 (j : Int))


/-- The cables that a place takes along an axis, line by line, and all of them. -/
def cabK (d0 d1 d2 : Int) (b : Bx) (t0 t1 t2 : Bool) (k : Fin 3) : List Int := (nodesB d0 d1 d2 (upB b 1 k)).flatMap fun m => cablesW d0 d1 d2 m k (mostW (dimAt d0 d1 d2 k) (sAt b k) (tK t0 t1 t2 k)).toNat
def cabsL (d0 d1 d2 : Int) (b : Bx) (t0 t1 t2 : Bool) : List Int := cabK d0 d1 d2 b t0 t1 t2 0 ++ cabK d0 d1 d2 b t0 t1 t2 1 ++ cabK d0 d1 d2 b t0 t1 t2 2

theorem hasS_one {r b c : Int} (hb : 0 ≤ b ∧ b < r) (hc : 0 ≤ c ∧ c < r) : hasS r b 1 c = true ↔ c = b := by
  have := aft_bd hb hc
  simp only [hasS, decide_eq_true_eq]
  unfold aft at this ⊢
  split <;> omega
theorem first_has {d0 d1 d2 m : Int} {b : Bx} (h : mayD d0 d1 d2) (hb : mayB d0 d1 d2 b) (hm : 0 ≤ m ∧ m < d0 * d1 * d2) (k : Fin 3) : hasB d0 d1 d2 (upB b 1 k) m = true ↔ hasB d0 d1 d2 b m = true ∧ coK d0 d1 m k = bAt b k := by
  rw [upB_has, hasS_one (mayB_at hb k).2 (co_bd h hm k), hasB_iff]
  constructor
  · rintro ⟨h1, h2⟩
    refine ⟨fun j => ?_, h1⟩
    by_cases hj : j = k
    · subst hj; rw [h1]; exact hasS_base (mayB_at hb j)
    · exact h2 j hj
  · rintro ⟨h1, h2⟩
    exact ⟨h2, fun j _ => h1 j⟩
theorem first_may {d0 d1 d2 : Int} {b : Bx} (h : mayD d0 d1 d2) (hb : mayB d0 d1 d2 b) (k : Fin 3) : mayB d0 d1 d2 (upB b 1 k) := by
  obtain ⟨⟨_, u0⟩, ⟨_, u1⟩, _, u2⟩ := h
  obtain ⟨h0, h1, h2⟩ := hb
  unfold mayS at h0 h1 h2
  rcases fin3 k with rfl | rfl | rfl
  · refine ⟨⟨?_, h0.2⟩, h1, h2⟩
    show (1 : Int) ≤ 1 ∧ (1 : Int) ≤ d0
    omega
  · refine ⟨h0, ⟨?_, h1.2⟩, h2⟩
    show (1 : Int) ≤ 1 ∧ (1 : Int) ≤ d1
    omega
  · refine ⟨h0, h1, ⟨?_, h2.2⟩⟩
    show (1 : Int) ≤ 1 ∧ (1 : Int) ≤ d2
    omega

theorem cabK_mem {d0 d1 d2 : Int} {b : Bx} {t0 t1 t2 : Bool} (h : mayD d0 d1 d2) (hp : mayP d0 d1 d2 b t0 t1 t2) (k : Fin 3) {n : Int} :
    n ∈ cabK d0 d1 d2 b t0 t1 t2 k ↔ ∃ o, (0 ≤ o ∧ o < d0 * d1 * d2) ∧ takes d0 d1 d2 b t0 t1 t2 k o = true ∧ n = cabW d0 d1 d2 k o := by
  have hz := runS_bd (r := dimAt d0 d1 d2 k) (s := sAt b k) (tK t0 t1 t2 k) (mayB_at hp.1 k).1
  have L := line_mem h hp.1 k hz (n := n)
  unfold cabK
  rw [most_run hp k, List.mem_flatMap]
  constructor
  · rintro ⟨m, hm, hn⟩
    obtain ⟨hmN, hf⟩ := nodesP_mem.1 hm
    obtain ⟨f1, f2⟩ := (first_has h hp.1 hmN k).1 hf
    obtain ⟨_, o, ho, hu, e⟩ := L.1 ⟨m, hmN, f1, f2, hn⟩
    exact ⟨o, ho, hu, e⟩
  · rintro ⟨o, ho, hu, e⟩
    obtain ⟨m, hmN, f1, f2, hn⟩ := L.2 ⟨takes_wired h hp ho hu, o, ho, hu, e⟩
    exact ⟨m, nodesP_mem.2 ⟨hmN, (first_has h hp.1 hmN k).2 ⟨f1, f2⟩⟩, hn⟩
theorem cabsL_mem {d0 d1 d2 : Int} {b : Bx} {t0 t1 t2 : Bool} (h : mayD d0 d1 d2) (hp : mayP d0 d1 d2 b t0 t1 t2) {n : Int} :
    n ∈ cabsL d0 d1 d2 b t0 t1 t2 ↔ ∃ (k : Fin 3) (o : Int), (0 ≤ o ∧ o < d0 * d1 * d2) ∧ takes d0 d1 d2 b t0 t1 t2 k o = true ∧ n = cabW d0 d1 d2 k o := by
  unfold cabsL
  rw [List.mem_append, List.mem_append, cabK_mem h hp, cabK_mem h hp, cabK_mem h hp]
  constructor
  · rintro ((h | h) | h)
    · exact ⟨0, h⟩
    · exact ⟨1, h⟩
    · exact ⟨2, h⟩
  · rintro ⟨k, h⟩
    rcases fin3 k with rfl | rfl | rfl
    · exact .inl (.inl h)
    · exact .inl (.inr h)
    · exact .inr h
theorem cab_node {d0 d1 d2 o : Int} (ho : 0 ≤ o ∧ o < d0 * d1 * d2) (k : Fin 3) : 0 ≤ cabW d0 d1 d2 k o ∧ cabW d0 d1 d2 k o < 3 * (d0 * d1 * d2) := by
  unfold cabW
  rcases fin3 k with rfl | rfl | rfl <;> simp only [axI] <;> omega
theorem cabs_in {d0 d1 d2 : Int} {b : Bx} {t0 t1 t2 : Bool} (h : mayD d0 d1 d2) (hp : mayP d0 d1 d2 b t0 t1 t2) (j : Nat) :
    inL (cabsL d0 d1 d2 b t0 t1 t2) j = (decide (j < (3 * (d0 * d1 * d2)).toNat) && cabB d0 d1 d2 b t0 t1 t2 (j : Int)) := by
  unfold inL
  rw [Bool.eq_iff_iff, List.contains_iff_mem, cabsL_mem h hp, Bool.and_eq_true, decide_eq_true_eq]
  constructor
  · rintro ⟨k, o, ho, ht, e⟩
    have hb := cab_node ho k
    rw [e, cabB_at ho k]
    exact ⟨by omega, ht⟩
  · rintro ⟨hj, hc⟩
    obtain ⟨k, o, ho, e⟩ := cab_of h (link := (j : Int)) (by omega)
    rw [e, cabB_at ho k] at hc
    exact ⟨k, o, ho, hc, e⟩
theorem cabs_ok {d0 d1 d2 : Int} {b : Bx} {t0 t1 t2 : Bool} (h : mayD d0 d1 d2) (hp : mayP d0 d1 d2 b t0 t1 t2) : ofOk (3 * (d0 * d1 * d2)) (cabsL d0 d1 d2 b t0 t1 t2) = true := by
  have := N_bd h
  refine ofOk_all (by omega) (by omega) fun x hx => ?_
  obtain ⟨k, o, ho, _, rfl⟩ := (cabsL_mem h hp).1 hx
  exact cab_node ho k
theorem cabs_of {d0 d1 d2 : Int} {b : Bx} {t0 t1 t2 : Bool} {ws : List Nat} (h : mayD d0 d1 d2) (hp : mayP d0 d1 d2 b t0 t1 t2) (ho : OfIs (3 * (d0 * d1 * d2)) (cabsL d0 d1 d2 b t0 t1 t2) ws) : ws = cabsW d0 d1 d2 b t0 t1 t2 :=
  setOf_of ho (cabs_ok h hp) (cabs_in h hp)

theorem cabK_len {d0 d1 d2 : Int} {b : Bx} {t0 t1 t2 : Bool} (h : mayD d0 d1 d2) (hp : mayP d0 d1 d2 b t0 t1 t2) (k : Fin 3) : (cabK d0 d1 d2 b t0 t1 t2 k).length ≤ 4096 := by
  have hz := runS_bd (r := dimAt d0 d1 d2 k) (s := sAt b k) (tK t0 t1 t2 k) (mayB_at hp.1 k).1
  have hd := dimAt_ok h k
  unfold okD at hd
  unfold cabK
  rw [most_run hp k]
  rw [flatP_len (c := if 1 < dimAt d0 d1 d2 k then (runS (dimAt d0 d1 d2 k) (sAt b k) (tK t0 t1 t2 k)).toNat else 0) (fun m hm => cables_len h (nodesP_mem.1 hm).1 k (by omega))]
  have hc : (if 1 < dimAt d0 d1 d2 k then (runS (dimAt d0 d1 d2 k) (sAt b k) (tK t0 t1 t2 k)).toNat else 0) ≤ 16 := by split <;> omega
  have hl : (nodesB d0 d1 d2 (upB b 1 k)).length ≤ 256 := by
    have hf := first_may h hp.1 k
    have e := nodes_count h (b := upB b 1 k) (fun j => ⟨(mayB_at hf j).2, by have := (mayB_at hf j).1; omega⟩)
    obtain ⟨⟨_, u0⟩, ⟨_, u1⟩, _, u2⟩ := h
    obtain ⟨⟨h0, _⟩, ⟨h1, _⟩, h2, _⟩ := hp.1
    have m1 : b.b * b.c ≤ 16 * 16 := (mul_bd (by omega) (by omega) (by omega) (by omega)).2
    have m2 : b.a * b.c ≤ 16 * 16 := (mul_bd (by omega) (by omega) (by omega) (by omega)).2
    have m3 : b.a * b.b ≤ 16 * 16 := (mul_bd (by omega) (by omega) (by omega) (by omega)).2
    rcases fin3 k with rfl | rfl | rfl <;> simp only [upB, Int.one_mul, Int.mul_one] at e ⊢ <;> omega
  exact Nat.le_trans (Nat.mul_le_mul hl hc) (by decide)
theorem cabsL_len {d0 d1 d2 : Int} {b : Bx} {t0 t1 t2 : Bool} (h : mayD d0 d1 d2) (hp : mayP d0 d1 d2 b t0 t1 t2) : (cabsL d0 d1 d2 b t0 t1 t2).length ≤ 12288 := by
  have h0 := cabK_len h hp 0
  have h1 := cabK_len h hp 1
  have h2 := cabK_len h hp 2
  unfold cabsL
  rw [List.length_append, List.length_append]
  omega

/-- The midplanes at the ends of a cable. -/
def endP (d0 d1 d2 n : Int) : List Int :=
  let N := d0 * d1 * d2
  if n < N then [n, onD d0 d1 d2 n 0 1] else if n < 2 * N then [n - N, onD d0 d1 d2 (n - N) 1 1] else [n - 2 * N, onD d0 d1 d2 (n - 2 * N) 2 1]
theorem endP_at {d0 d1 d2 o : Int} (ho : 0 ≤ o ∧ o < d0 * d1 * d2) (k : Fin 3) : endP d0 d1 d2 (cabW d0 d1 d2 k o) = [o, onD d0 d1 d2 o k 1] := by
  rcases fin3 k with rfl | rfl | rfl
  · have e : cabW d0 d1 d2 0 o = o := by unfold cabW; simp only [axI]; omega
    rw [e]
    unfold endP
    rw [if_pos ho.2]
  · have e : cabW d0 d1 d2 1 o = d0 * d1 * d2 + o := by unfold cabW; simp only [axI]; omega
    rw [e]
    unfold endP
    rw [if_neg (by omega), if_pos (by omega), show d0 * d1 * d2 + o - d0 * d1 * d2 = o by omega]
  · have e : cabW d0 d1 d2 2 o = 2 * (d0 * d1 * d2) + o := by unfold cabW; simp only [axI]
    rw [e]
    unfold endP
    rw [if_neg (by omega), if_neg (by omega), show 2 * (d0 * d1 * d2) + o - 2 * (d0 * d1 * d2) = o by omega]
def endsL (d0 d1 d2 : Int) (l : List Int) : List Int := l.flatMap (endP d0 d1 d2)
theorem endP_len (d0 d1 d2 n : Int) : (endP d0 d1 d2 n).length = 2 := by
  unfold endP
  dsimp only
  split
  · rfl
  · split <;> rfl
theorem endsL_len (d0 d1 d2 : Int) (l : List Int) : (endsL d0 d1 d2 l).length = l.length * 2 := flatP_len (fun a _ => endP_len d0 d1 d2 a)
theorem endsL_app (d0 d1 d2 : Int) (l : List Int) (n : Int) : endsL d0 d1 d2 (l ++ [n]) = endsL d0 d1 d2 l ++ endP d0 d1 d2 n := by simp [endsL]

/-- A midplane at an end of a cable that a place takes. -/
def endK (d0 d1 d2 : Int) (b : Bx) (t0 t1 t2 : Bool) (k : Fin 3) (m : Int) : Bool := decide (1 < dimAt d0 d1 d2 k) && (takes d0 d1 d2 b t0 t1 t2 k m || takes d0 d1 d2 b t0 t1 t2 k (onD d0 d1 d2 m k (-1)))
def endB (d0 d1 d2 : Int) (b : Bx) (t0 t1 t2 : Bool) (m : Int) : Bool := endK d0 d1 d2 b t0 t1 t2 0 m || endK d0 d1 d2 b t0 t1 t2 1 m || endK d0 d1 d2 b t0 t1 t2 2 m
theorem endB_iff {d0 d1 d2 m : Int} {b : Bx} {t0 t1 t2 : Bool} : endB d0 d1 d2 b t0 t1 t2 m = true ↔ ∃ k, 1 < dimAt d0 d1 d2 k ∧ (takes d0 d1 d2 b t0 t1 t2 k m = true ∨ takes d0 d1 d2 b t0 t1 t2 k (onD d0 d1 d2 m k (-1)) = true) := by
  have e : ∀ k, endK d0 d1 d2 b t0 t1 t2 k m = true ↔ 1 < dimAt d0 d1 d2 k ∧ (takes d0 d1 d2 b t0 t1 t2 k m = true ∨ takes d0 d1 d2 b t0 t1 t2 k (onD d0 d1 d2 m k (-1)) = true) := fun k => by
    unfold endK
    rw [Bool.and_eq_true, Bool.or_eq_true, decide_eq_true_eq]
  unfold endB
  rw [Bool.or_eq_true, Bool.or_eq_true, e, e, e]
  constructor
  · rintro ((h | h) | h)
    · exact ⟨0, h⟩
    · exact ⟨1, h⟩
    · exact ⟨2, h⟩
  · rintro ⟨k, h⟩
    rcases fin3 k with rfl | rfl | rfl
    · exact .inl (.inl h)
    · exact .inl (.inr h)
    · exact .inr h
theorem endsL_mem {d0 d1 d2 : Int} {b : Bx} {t0 t1 t2 : Bool} (h : mayD d0 d1 d2) (hp : mayP d0 d1 d2 b t0 t1 t2) {x : Int} :
    x ∈ endsL d0 d1 d2 (cabsL d0 d1 d2 b t0 t1 t2) ↔ (0 ≤ x ∧ x < d0 * d1 * d2) ∧ endB d0 d1 d2 b t0 t1 t2 x = true := by
  unfold endsL
  rw [List.mem_flatMap, endB_iff]
  constructor
  · rintro ⟨n, hn, hx⟩
    obtain ⟨k, o, ho, ht, rfl⟩ := (cabsL_mem h hp).1 hn
    have hw := takes_wired h hp ho ht
    rw [endP_at ho k, List.mem_cons, List.mem_singleton] at hx
    rcases hx with rfl | rfl
    · exact ⟨ho, k, hw, .inl ht⟩
    · refine ⟨on_node h ho k 1, k, hw, .inr ?_⟩
      rw [on_on h ho, show (1 : Int) + -1 = 0 by omega, on_round h ho k 0 (.inl rfl)]
      exact ht
  · rintro ⟨hx, k, hw, ht | ht⟩
    · refine ⟨cabW d0 d1 d2 k x, (cabsL_mem h hp).2 ⟨k, x, hx, ht, rfl⟩, ?_⟩
      rw [endP_at hx k]
      simp
    · have ho := on_node h hx k (-1)
      refine ⟨cabW d0 d1 d2 k (onD d0 d1 d2 x k (-1)), (cabsL_mem h hp).2 ⟨k, _, ho, ht, rfl⟩, ?_⟩
      rw [endP_at ho k, on_back h hx k]
      simp
def endsW (d0 d1 d2 : Int) (b : Bx) (t0 t1 t2 : Bool) : List Nat := setOf (d0 * d1 * d2) (fun j : Nat => endB d0 d1 d2 b t0 t1 t2 (j : Int))
theorem ends_ok {d0 d1 d2 : Int} {b : Bx} {t0 t1 t2 : Bool} (h : mayD d0 d1 d2) (hp : mayP d0 d1 d2 b t0 t1 t2) : ofOk (d0 * d1 * d2) (endsL d0 d1 d2 (cabsL d0 d1 d2 b t0 t1 t2)) = true := by
  have := N_bd h
  exact ofOk_all (by omega) (by omega) fun x hx => ((endsL_mem h hp).1 hx).1
theorem ends_of {d0 d1 d2 : Int} {b : Bx} {t0 t1 t2 : Bool} {ws : List Nat} (h : mayD d0 d1 d2) (hp : mayP d0 d1 d2 b t0 t1 t2) (ho : OfIs (d0 * d1 * d2) (endsL d0 d1 d2 (cabsL d0 d1 d2 b t0 t1 t2)) ws) : ws = endsW d0 d1 d2 b t0 t1 t2 := by
  refine setOf_of ho (ends_ok h hp) fun j => ?_
  unfold inL
  rw [Bool.eq_iff_iff, List.contains_iff_mem, endsL_mem h hp, Bool.and_eq_true, decide_eq_true_eq]
  exact ⟨fun ⟨a, b⟩ => ⟨by omega, b⟩, fun ⟨a, b⟩ => ⟨by omega, b⟩⟩

/-- What a place passes, as a set and as a list. -/
def pasB (d0 d1 d2 : Int) (b : Bx) (t0 t1 t2 : Bool) (m : Int) : Bool := endB d0 d1 d2 b t0 t1 t2 m && !hasB d0 d1 d2 b m
def passTo (d0 d1 d2 : Int) (b : Bx) (t0 t1 t2 : Bool) (k : Nat) : List Int := ofN ((List.range k).filter fun j : Nat => pasB d0 d1 d2 b t0 t1 t2 (j : Int))
def passL (d0 d1 d2 : Int) (b : Bx) (t0 t1 t2 : Bool) : List Int := passTo d0 d1 d2 b t0 t1 t2 (d0 * d1 * d2).toNat
def passW (d0 d1 d2 : Int) (b : Bx) (t0 t1 t2 : Bool) : List Nat := setOf (d0 * d1 * d2) (fun j : Nat => pasB d0 d1 d2 b t0 t1 t2 (j : Int))
theorem pass_less {d0 d1 d2 : Int} (h : mayD d0 d1 d2) (b : Bx) (t0 t1 t2 : Bool) : joinW notW (d0 * d1 * d2) (endsW d0 d1 d2 b t0 t1 t2) (midW d0 d1 d2 b) = passW d0 d1 d2 b t0 t1 t2 := by
  have := N_bd h
  exact setOf_less (by omega) (by omega) _ _
theorem pass_list {d0 d1 d2 : Int} (h : mayD d0 d1 d2) (b : Bx) (t0 t1 t2 : Bool) : listR (d0 * d1 * d2) (passW d0 d1 d2 b t0 t1 t2) = passL d0 d1 d2 b t0 t1 t2 := by
  have := N_bd h
  exact setOf_list (by omega) (by omega) _
theorem pasB_iff {d0 d1 d2 m : Int} {b : Bx} {t0 t1 t2 : Bool} : pasB d0 d1 d2 b t0 t1 t2 m = true ↔ passB d0 d1 d2 b t0 t1 t2 m := by
  unfold pasB passB
  rw [Bool.and_eq_true, endB_iff]
  constructor
  · rintro ⟨h1, h2⟩; exact ⟨by simpa using h2, h1⟩
  · rintro ⟨h1, h2⟩; exact ⟨h2, by simpa using h1⟩

end Go.Proofs.YtbedhpooeabehaaGreatDoor

/-
  A place, as the program holds it: nine cells.
-/
namespace Go.Proofs.YtbedhpooeabehaaGreatDoor
open Go Go.RowKit Go.Shelf

abbrev P9 (b : Bx) (p q r : Bool) : Value := .agg #[.int .i64 b.x, .int .i64 b.y, .int .i64 b.z, .int .i64 b.a, .int .i64 b.b, .int .i64 b.c, .bool p, .bool q, .bool r]
/-- The answer to whether a place may be. -/
def mayPB (d0 d1 d2 : Int) (b : Bx) (t0 t1 t2 : Bool) : Bool := mayBB d0 d1 d2 b && sameBx b (canonB d0 d1 d2 b) && !torB b t0 t1 t2
def errP (d0 d1 d2 : Int) (b : Bx) (t0 t1 t2 : Bool) : Int := if okDB d0 d1 d2 then codeOf (mayPB d0 d1 d2 b t0 t1 t2) else 8
theorem mayPB_iff (d0 d1 d2 : Int) (b : Bx) (t0 t1 t2 : Bool) : mayPB d0 d1 d2 b t0 t1 t2 = true ↔ mayP d0 d1 d2 b t0 t1 t2 := by
  unfold mayPB mayP
  rw [Bool.and_eq_true, Bool.and_eq_true, mayBB_iff, sameBx_iff, Bool.not_eq_true', torB_iff, and_assoc]
  exact ⟨fun ⟨a, b, c⟩ => ⟨a, b.symm, c⟩, fun ⟨a, b, c⟩ => ⟨a, b.symm, c⟩⟩
theorem errP_cases (d0 d1 d2 : Int) (b : Bx) (t0 t1 t2 : Bool) : (mayD d0 d1 d2 ∧ mayP d0 d1 d2 b t0 t1 t2 ∧ errP d0 d1 d2 b t0 t1 t2 = 0) ∨ ((errP d0 d1 d2 b t0 t1 t2 = 2 ∨ errP d0 d1 d2 b t0 t1 t2 = 8) ∧ ¬ (mayD d0 d1 d2 ∧ mayP d0 d1 d2 b t0 t1 t2)) := by
  have h1 := okDB_iff d0 d1 d2
  have h2 := mayPB_iff d0 d1 d2 b t0 t1 t2
  unfold errP
  cases e1 : okDB d0 d1 d2
  · rw [e1] at h1
    exact .inr ⟨by simp, fun h => by simp [h.1] at h1⟩
  · cases e2 : mayPB d0 d1 d2 b t0 t1 t2
    · rw [e2] at h2
      exact .inr ⟨by simp [codeOf], fun h => by simp [h.2] at h2⟩
    · exact .inl ⟨h1.1 e1, h2.1 e2, by simp [codeOf]⟩

end Go.Proofs.YtbedhpooeabehaaGreatDoor

/-
  place.Check and place.first: what each call answers; nothing that lay before is turned.
-/
namespace Go.Proofs.YtbedhpooeabehaaGreatDoor
open Go Go.RowKit Go.Shelf

theorem bx0 (x y z : Bool) (w : World) : (Instr.index 28 (.agg #[.bool x, .bool y, .bool z]) (.int .i64 0)).run Tryz.prog w = .ok (.bool x) w := by kernel_rfl
theorem bx1 (x y z : Bool) (w : World) : (Instr.index 28 (.agg #[.bool x, .bool y, .bool z]) (.int .i64 1)).run Tryz.prog w = .ok (.bool y) w := by kernel_rfl
theorem bx2 (x y z : Bool) (w : World) : (Instr.index 28 (.agg #[.bool x, .bool y, .bool z]) (.int .i64 2)).run Tryz.prog w = .ok (.bool z) w := by kernel_rfl

attribute [local go_sem] Oper.semAt_some ext_const eq_arr eq_arr9 same3_self bx0 bx1 bx2

abbrev C9 (b : Bx) (p q r : Bool) : Array Value := #[I b.x, I b.y, I b.z, I b.a, I b.b, I b.c, .bool p, .bool q, .bool r]
theorem Blk.nine {W W' : World} {B : Nat} {t : TypeId} {b : Bx} {p q r : Bool} (h : Blk W B t (C9 b p q r)) (hb : Below W.heap.size W W') :
    (W'.cell? ⟨B, 0, none⟩ = some (I b.x) ∧ W'.cell? ⟨B, 1, none⟩ = some (I b.y) ∧ W'.cell? ⟨B, 2, none⟩ = some (I b.z)) ∧ (W'.cell? ⟨B, 3, none⟩ = some (I b.a) ∧ W'.cell? ⟨B, 4, none⟩ = some (I b.b) ∧ W'.cell? ⟨B, 5, none⟩ = some (I b.c)) ∧
    (W'.cell? ⟨B, 6, none⟩ = some (.bool p) ∧ W'.cell? ⟨B, 7, none⟩ = some (.bool q) ∧ W'.cell? ⟨B, 8, none⟩ = some (.bool r)) ∧ B < W'.heap.size :=
  ⟨⟨(h.later hb).cell 0, (h.later hb).cell 1, (h.later hb).cell 2⟩, ⟨(h.later hb).cell 3, (h.later hb).cell 4, (h.later hb).cell 5⟩, ⟨(h.later hb).cell 6, (h.later hb).cell 7, (h.later hb).cell 8⟩, (h.later hb).lt⟩

theorem errP_err {d0 d1 d2 : Int} {b : Bx} (t0 t1 t2 : Bool) (he : (errB d0 d1 d2 b != 0) = true) : errP d0 d1 d2 b t0 t1 t2 = errB d0 d1 d2 b := by
  unfold errB at he ⊢
  unfold errP
  cases h1 : okDB d0 d1 d2
  · rfl
  · cases h2 : mayBB d0 d1 d2 b
    · simp [mayPB, h2]
    · simp [h1, h2, codeOf] at he
theorem errP_box {d0 d1 d2 : Int} {b : Bx} (t0 t1 t2 : Bool) (hm : mayD d0 d1 d2) (hb : mayB d0 d1 d2 b) : errP d0 d1 d2 b t0 t1 t2 = codeOf (sameBx b (canonB d0 d1 d2 b) && !torB b t0 t1 t2) := by
  unfold errP mayPB
  rw [(okDB_iff _ _ _).2 hm, (mayBB_iff _ _ _ _).2 hb]
  simp

set_option maxRecDepth 100000 in
set_option maxHeartbeats 2000000 in
theorem pcheck_err {d0 d1 d2 : Int} {b : Bx} (t0 t1 t2 : Bool) (w : World) (he : (errB d0 d1 d2 b != 0) = true) :
    Calls Tryz.prog 30 #[A3 d0 d1 d2, P9 b t0 t1 t2] w fun e W' => e = .returned (I (errB d0 d1 d2 b)) ∧ Below w.heap.size w W' := by
  have HC : Hid (∀ w, Calls Tryz.prog 47 #[A3 d0 d1 d2, B6 b] w fun e W' => e = .returned (.tuple #[B6 ⟨0, 0, 0, 0, 0, 0⟩, I (errB d0 d1 d2 b)]) ∧ Below w.heap.size w W') := fun w => bcanon_err w he
  generalize errB d0 d1 d2 b = er at *
  go_enter Tryz.func30, Tryz.ntmps30
  go_wp2_with fail
  obtain ⟨W, hW, hB0, b0, b1⟩ := two_start w #[I d0, I d1, I d2] (C9 b t0 t1 t2) 23 30
  rw [hW]
  clear hW
  refine (HC.out _).mono ?_
  rintro e w1 ⟨rfl, hT⟩
  have hB := then_below hB0 hT
  clear hT b0 b1
  go_wp2
  go_ret
  exact ⟨rfl, then_alloc hB _⟩

set_option maxRecDepth 100000 in
set_option maxHeartbeats 4000000 in
theorem pcheck_not {d0 d1 d2 : Int} {b : Bx} (t0 t1 t2 : Bool) (w : World) (hm : mayD d0 d1 d2) (hb : mayB d0 d1 d2 b) (hs : sameBx b (canonB d0 d1 d2 b) = false) :
    Calls Tryz.prog 30 #[A3 d0 d1 d2, P9 b t0 t1 t2] w fun e W' => e = .returned (I 2) ∧ Below w.heap.size w W' := by
  have HC : Hid (∀ w, Calls Tryz.prog 47 #[A3 d0 d1 d2, B6 b] w fun e W' => e = .returned (.tuple #[B6 (canonB d0 d1 d2 b), I 0]) ∧ Below w.heap.size w W') := fun w => bcanon_ok w hm hb
  generalize canonB d0 d1 d2 b = c at *
  have hs : same3 b.x b.y b.z c.x c.y c.z = false ∨ (same3 b.x b.y b.z c.x c.y c.z = true ∧ same3 b.a b.b b.c c.a c.b c.c = false) := by
    unfold sameBx at hs
    cases h1 : same3 b.x b.y b.z c.x c.y c.z
    · exact .inl rfl
    · rw [h1, Bool.true_and] at hs
      exact .inr ⟨rfl, hs⟩
  rcases hs with h1 | ⟨h1, h2⟩
  · go_enter Tryz.func30, Tryz.ntmps30
    go_wp2_with fail
    obtain ⟨W, hW, hB0, b0, b1⟩ := two_start w #[I d0, I d1, I d2] (C9 b t0 t1 t2) 23 30
    rw [hW]
    clear hW
    refine (HC.out _).mono ?_
    rintro e w1 ⟨rfl, hT⟩
    have hB := then_below hB0 hT
    obtain ⟨⟨x0, x1, x2⟩, ⟨x3, x4, x5⟩, _, hz⟩ := b1.nine hT
    clear hT b0 b1 hB0
    go_wp2
    go_ret
    exact ⟨rfl, then_alloc hB _⟩
  · go_enter Tryz.func30, Tryz.ntmps30
    go_wp2_with fail
    obtain ⟨W, hW, hB0, b0, b1⟩ := two_start w #[I d0, I d1, I d2] (C9 b t0 t1 t2) 23 30
    rw [hW]
    clear hW
    refine (HC.out _).mono ?_
    rintro e w1 ⟨rfl, hT⟩
    have hB := then_below hB0 hT
    obtain ⟨⟨x0, x1, x2⟩, ⟨x3, x4, x5⟩, _, hz⟩ := b1.nine hT
    clear hT b0 b1 hB0
    go_wp2
    go_ret
    exact ⟨rfl, then_alloc hB _⟩

set_option maxRecDepth 100000 in
set_option maxHeartbeats 4000000 in
theorem pcheck_same {d0 d1 d2 : Int} {b : Bx} (t0 t1 t2 : Bool) (w : World) (hm : mayD d0 d1 d2) (hb : mayB d0 d1 d2 b) (hs : canonB d0 d1 d2 b = b) :
    Calls Tryz.prog 30 #[A3 d0 d1 d2, P9 b t0 t1 t2] w fun e W' => e = .returned (I (codeOf (!torB b t0 t1 t2))) ∧ Below w.heap.size w W' := by
  have HC : Hid (∀ w, Calls Tryz.prog 47 #[A3 d0 d1 d2, B6 b] w fun e W' => e = .returned (.tuple #[B6 b, I 0]) ∧ Below w.heap.size w W') := fun w => by have := bcanon_ok (b := b) w hm hb; rwa [hs] at this
  clear hs hb hm
  have HY : Hid (torB b t0 t1 t2 = true → codeOf (!torB b t0 t1 t2) = 2) := fun h => by simp [h, codeOf]
  have HN : Hid (torB b t0 t1 t2 = false → codeOf (!torB b t0 t1 t2) = 0) := fun h => by simp [h, codeOf]
  have HT : Hid (torB b t0 t1 t2 = ((t0 && b.a == 1) || (t1 && b.b == 1) || (t2 && b.c == 1))) := rfl
  generalize codeOf (!torB b t0 t1 t2) = er at *
  generalize torB b t0 t1 t2 = tb at *
  go_enter Tryz.func30, Tryz.ntmps30
  go_wp2_with fail
  obtain ⟨W, hW, hB0, b0, b1⟩ := two_start w #[I d0, I d1, I d2] (C9 b t0 t1 t2) 23 30
  rw [hW]
  clear hW
  refine (HC.out _).mono ?_
  rintro e w1 ⟨rfl, hT⟩
  have hB := then_below hB0 hT
  obtain ⟨⟨x0, x1, x2⟩, ⟨x3, x4, x5⟩, ⟨x6, x7, x8⟩, hz⟩ := b1.nine hT
  have hB2 := then_alloc hB (.cells (C6 b) 27)
  clear hT b0 b1 hB0 hB
  go_wp2_with fail
  go_loopw [25] (fun i wr => ((i = .int .i64 0) ∨ (i = .int .i64 1 ∧ Hid ((t0 && b.a == 1) = false)) ∨ (i = .int .i64 2 ∧ Hid ((t0 && b.a == 1) = false) ∧ Hid ((t1 && b.b == 1) = false)) ∨ (i = .int .i64 3 ∧ Hid ((t0 && b.a == 1) = false) ∧ Hid ((t1 && b.b == 1) = false) ∧ Hid ((t2 && b.c == 1) = false))) ∧ wr = w1.alloc (.cells (C6 b) 27)) (fun i _ => 3 - (RowKit.intOf i).toNat)
  case atStart => exact ⟨.inl rfl, rfl⟩
  case round =>
    obtain ⟨hi, rfl⟩ := hrel
    rcases hi with rfl | ⟨rfl, h0⟩ | ⟨rfl, h0, h1⟩ | ⟨rfl, h0, h1, h2⟩
    · cases t0
      · go_wp2
        go_roundw
        case rel => exact ⟨.inr (.inl ⟨rfl, by show _ = _; simp⟩), by trivial⟩
        case measure => simp [RowKit.intOf]
      · cases hq : b.a == 1
        · go_wp2
          go_roundw
          case rel => exact ⟨.inr (.inl ⟨rfl, by show _ = _; simp⟩), by trivial⟩
          case measure => simp [RowKit.intOf]
        · go_wp2
          go_ret
          exact ⟨by rw [HY.out (by rw [HT.out, hq]; simp)]; rfl, hB2⟩
    · cases t1
      · go_wp2
        go_roundw
        case rel => exact ⟨.inr (.inr (.inl ⟨rfl, h0, by show _ = _; simp⟩)), by trivial⟩
        case measure => simp [RowKit.intOf]
      · cases hq : b.b == 1
        · go_wp2
          go_roundw
          case rel => exact ⟨.inr (.inr (.inl ⟨rfl, h0, by show _ = _; simp⟩)), by trivial⟩
          case measure => simp [RowKit.intOf]
        · go_wp2
          go_ret
          exact ⟨by rw [HY.out (by rw [HT.out, hq]; simp)]; rfl, hB2⟩
    · cases t2
      · go_wp2
        go_roundw
        case rel => exact ⟨.inr (.inr (.inr ⟨rfl, h0, h1, by show _ = _; simp⟩)), by trivial⟩
        case measure => simp [RowKit.intOf]
      · cases hq : b.c == 1
        · go_wp2
          go_roundw
          case rel => exact ⟨.inr (.inr (.inr ⟨rfl, h0, h1, by show _ = _; simp⟩)), by trivial⟩
          case measure => simp [RowKit.intOf]
        · go_wp2
          go_ret
          exact ⟨by rw [HY.out (by rw [HT.out, hq]; simp)]; rfl, hB2⟩
    · go_wp2
      go_ret
      exact ⟨by rw [HN.out (by rw [HT.out, h0.out, h1.out, h2.out]; rfl)]; rfl, hB2⟩

/-- Whether a place may be: the document's answer. -/
theorem pcheck_calls (d0 d1 d2 : Int) (b : Bx) (t0 t1 t2 : Bool) (w : World) :
    Calls Tryz.prog 30 #[A3 d0 d1 d2, P9 b t0 t1 t2] w fun e W' => e = .returned (I (errP d0 d1 d2 b t0 t1 t2)) ∧ Below w.heap.size w W' := by
  rcases errB_cases d0 d1 d2 b with ⟨hm, hb, he⟩ | ⟨he, _⟩
  · rw [errP_box t0 t1 t2 hm hb]
    cases hs : sameBx b (canonB d0 d1 d2 b)
    · exact pcheck_not t0 t1 t2 w hm hb hs
    · have := pcheck_same t0 t1 t2 w hm hb ((sameBx_iff _ _).1 hs).symm
      simpa using this
  · have he : (errB d0 d1 d2 b != 0) = true := by rcases he with h | h <;> rw [h] <;> rfl
    rw [errP_err t0 t1 t2 he]
    exact pcheck_err t0 t1 t2 w he

set_option maxRecDepth 100000 in
set_option maxHeartbeats 2000000 in
theorem firstP_calls (b : Bx) (k : Fin 3) (w : World) : Calls Tryz.prog 71 #[B6 b, I (axI k)] w fun e W' => e = .returned (B6 (upB b 1 k)) ∧ Below w.heap.size w W' := by
  rcases fin3 k with rfl | rfl | rfl
  · simp only [axI, upB]
    go_enter Tryz.func71, Tryz.ntmps71
    go_wp2
    obtain ⟨W, hW, hB0, b0, b1⟩ := two_start w #[I b.x, I b.y, I b.z, I 1, I b.b, I b.c] #[I b.x, I b.y, I b.z, I 1, I b.b, I b.c] 27 27
    rw [hW]
    obtain ⟨⟨j0, j1, j2, j3, j4, j5⟩, _⟩ := b1.row6
    exact bodyPost_ret (v := .agg #[I b.x, I b.y, I b.z, I 1, I b.b, I b.c]) (by simp [results, Tryz.f71, go_sem, j0, j1, j2, j3, j4, j5]) rfl ⟨rfl, hB0⟩
  · simp only [axI, upB]
    go_enter Tryz.func71, Tryz.ntmps71
    go_wp2
    obtain ⟨W, hW, hB0, b0, b1⟩ := two_start w #[I b.x, I b.y, I b.z, I b.a, I 1, I b.c] #[I b.x, I b.y, I b.z, I b.a, I 1, I b.c] 27 27
    rw [hW]
    obtain ⟨⟨j0, j1, j2, j3, j4, j5⟩, _⟩ := b1.row6
    exact bodyPost_ret (v := .agg #[I b.x, I b.y, I b.z, I b.a, I 1, I b.c]) (by simp [results, Tryz.f71, go_sem, j0, j1, j2, j3, j4, j5]) rfl ⟨rfl, hB0⟩
  · simp only [axI, upB]
    go_enter Tryz.func71, Tryz.ntmps71
    go_wp2
    obtain ⟨W, hW, hB0, b0, b1⟩ := two_start w #[I b.x, I b.y, I b.z, I b.a, I b.b, I 1] #[I b.x, I b.y, I b.z, I b.a, I b.b, I 1] 27 27
    rw [hW]
    obtain ⟨⟨j0, j1, j2, j3, j4, j5⟩, _⟩ := b1.row6
    exact bodyPost_ret (v := .agg #[I b.x, I b.y, I b.z, I b.a, I b.b, I 1]) (by simp [results, Tryz.f71, go_sem, j0, j1, j2, j3, j4, j5]) rfl ⟨rfl, hB0⟩

end Go.Proofs.YtbedhpooeabehaaGreatDoor
