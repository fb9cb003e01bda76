/-
  Plain arithmetic of places: the sets that a place takes, as rows of words; what it passes. No program is walked here.
-/
import Derived.Test.YtfbegeopiakccaaGreatDoorPart6
import Derived.Test.YtfbegeopiakccaaGreatDoorPart9
import Derived.Test.YtfbegeopiakccaaGreatDoorPart10
import Derived.Test.YtfbegeopiakccaaGreatDoorPart2
import Derived.Test.YtfbegeopiakccaaGreatDoorPart4
import Derived.Test.YtfbegeopiakccaaGreatDoorPart1
namespace Go.Proofs.YtfbegeopiakccaaGreatDoor
open Go Go.RowKit

/-- A place may be: its box is canonical, and a torus along no axis along which it is one long. -/
def mayP (d0 d1 d2 : Int) (b : Bx) (t0 t1 t2 : Bool) : Prop := mayB d0 d1 d2 b ∧ canonB d0 d1 d2 b = b ∧ ∀ k, tK t0 t1 t2 k = true → sAt b k ≠ 1
def torB (b : Bx) (t0 t1 t2 : Bool) : Bool := (t0 && b.a == 1) || (t1 && b.b == 1) || (t2 && b.c == 1)
theorem torB_iff {b : Bx} {t0 t1 t2 : Bool} : torB b t0 t1 t2 = false ↔ ∀ k, tK t0 t1 t2 k = true → sAt b k ≠ 1 := by
  have e : (torB b t0 t1 t2 = false) ↔ ((t0 = true → b.a ≠ 1) ∧ (t1 = true → b.b ≠ 1) ∧ (t2 = true → b.c ≠ 1)) := by
    unfold torB
    cases t0 <;> cases t1 <;> cases t2 <;> simp [and_assoc]
  rw [e]
  constructor
  · rintro ⟨h0, h1, h2⟩ k
    rcases fin3 k with rfl | rfl | rfl
    · exact h0
    · exact h1
    · exact h2
  · intro h
    exact ⟨h 0, h 1, h 2⟩

theorem most_run {d0 d1 d2 : Int} {b : Bx} {t0 t1 t2 : Bool} (hp : mayP d0 d1 d2 b t0 t1 t2) (k : Fin 3) : mostW (dimAt d0 d1 d2 k) (sAt b k) (tK t0 t1 t2 k) = runS (dimAt d0 d1 d2 k) (sAt b k) (tK t0 t1 t2 k) := by
  have h1 := (mayB_at hp.1 k).1
  have h2 := hp.2.2 k
  unfold mostW runS
  cases ht : tK t0 t1 t2 k
  · simp
  · have := h2 ht
    rw [if_pos ⟨rfl, by omega⟩, if_pos rfl]

theorem takes_wired {d0 d1 d2 m : Int} {b : Bx} {t0 t1 t2 : Bool} (h : mayD d0 d1 d2) (hp : mayP d0 d1 d2 b t0 t1 t2) (hm : 0 ≤ m ∧ m < d0 * d1 * d2) {k : Fin 3} (ht : takes d0 d1 d2 b t0 t1 t2 k m = true) : 1 < dimAt d0 d1 d2 k := by
  have hd := dimAt_ok h k
  unfold okD at hd
  have hs := mayB_at hp.1 k
  unfold mayS at hs
  unfold takes boxK at ht
  have u := (upB_has.1 ht).1
  have hbd := aft_bd hs.2 (co_bd h hm k)
  unfold hasS at u
  have u := of_decide_eq_true u
  have h2 := hp.2.2 k
  unfold runS at u
  cases hk : tK t0 t1 t2 k
  · rw [hk, if_neg (by simp)] at u
    omega
  · have := h2 hk
    omega

/-- The midplanes of a place, as a set. -/
def midW (d0 d1 d2 : Int) (b : Bx) : List Nat := setOf (d0 * d1 * d2) (fun j : Nat => hasB d0 d1 d2 b (j : Int))
/-- Its cables, as a set. -/
def cabsW (d0 d1 d2 : Int) (b : Bx) (t0 t1 t2 : Bool) : List Nat := setOf (3 * (d0 * d1 * d2)) (fun j : Nat => cabB d0 d1 d2 b t0 t1 t2 (j : Int))

theorem nodes_in (d0 d1 d2 : Int) (b : Bx) (j : Nat) : inL (nodesB d0 d1 d2 b) j = (decide (j < (d0 * d1 * d2).toNat) && hasB d0 d1 d2 b (j : Int)) := by
  have := inL_ofN ((List.range (d0 * d1 * d2).toNat).filter (fun m : Nat => hasB d0 d1 d2 b m)) j
  unfold nodesB nodesTo
  unfold ofN at this
  rw [this, Bool.eq_iff_iff, List.contains_iff_mem, List.mem_filter, List.mem_range, Bool.and_eq_true, decide_eq_true_eq]
theorem nodesP_mem {d0 d1 d2 : Int} {b : Bx} {x : Int} : x ∈ nodesB d0 d1 d2 b ↔ (0 ≤ x ∧ x < d0 * d1 * d2) ∧ hasB d0 d1 d2 b x = true := by
  unfold nodesB nodesTo
  rw [List.mem_map]
  constructor
  · rintro ⟨m, hm, rfl⟩
    rw [List.mem_filter, List.mem_range] at hm
    exact ⟨by omega, hm.2⟩
  · rintro ⟨h1, h2⟩
    refine ⟨x.toNat, ?_, by omega⟩
    rw [List.mem_filter, List.mem_range, Int.toNat_of_nonneg h1.1]
    exact ⟨by omega, h2⟩
theorem nodes_ok {d0 d1 d2 : Int} (h : mayD d0 d1 d2) (b : Bx) : ofOk (d0 * d1 * d2) (nodesB d0 d1 d2 b) = true := by
  have := N_bd h
  exact ofOk_all (by omega) (by omega) fun x hx => (nodesP_mem.1 hx).1
theorem mid_of {d0 d1 d2 : Int} {b : Bx} {ws : List Nat} (h : mayD d0 d1 d2) (ho : OfIs (d0 * d1 * d2) (nodesB d0 d1 d2 b) ws) : ws = midW d0 d1 d2 b :=
  setOf_of ho (nodes_ok h b) (nodes_in d0 d1 d2 b)
theorem mid_list {d0 d1 d2 : Int} (h : mayD d0 d1 d2) (b : Bx) : listR (d0 * d1 * d2) (midW d0 d1 d2 b) = nodesB d0 d1 d2 b := by
  have := N_bd h
  unfold midW
  rw [setOf_list (by omega) (by omega)]
  rfl

/-- The cables that a place takes along an axis, line by line, and all of them. -/
def cabK (d0 d1 d2 : Int) (b : Bx) (t0 t1 t2 : Bool) (k : Fin 3) : List Int := (nodesB d0 d1 d2 (upB b 1 k)).flatMap fun m => cablesW d0 d1 d2 m k (mostW (dimAt d0 d1 d2 k) (sAt b k) (tK t0 t1 t2 k)).toNat
def cabsL (d0 d1 d2 : Int) (b : Bx) (t0 t1 t2 : Bool) : List Int := cabK d0 d1 d2 b t0 t1 t2 0 ++ cabK d0 d1 d2 b t0 t1 t2 1 ++ cabK d0 d1 d2 b t0 t1 t2 2

theorem hasS_one {r b c : Int} (hb : 0 ≤ b ∧ b < r) (hc : 0 ≤ c ∧ c < r) : hasS r b 1 c = true ↔ c = b := by
  have := aft_bd hb hc
  simp only [hasS, decide_eq_true_eq]
  unfold aft at this ⊢
  split <;> omega
theorem first_has {d0 d1 d2 m : Int} {b : Bx} (h : mayD d0 d1 d2) (hb : mayB d0 d1 d2 b) (hm : 0 ≤ m ∧ m < d0 * d1 * d2) (k : Fin 3) : hasB d0 d1 d2 (upB b 1 k) m = true ↔ hasB d0 d1 d2 b m = true ∧ coK d0 d1 m k = bAt b k := by
  rw [upB_has, hasS_one (mayB_at hb k).2 (co_bd h hm k), hasB_iff]
  constructor
  · rintro ⟨h1, h2⟩
    refine ⟨fun j => ?_, h1⟩
    by_cases hj : j = k
    · subst hj; rw [h1]; exact hasS_base (mayB_at hb j)
    · exact h2 j hj
  · rintro ⟨h1, h2⟩
    exact ⟨h2, fun j _ => h1 j⟩
theorem first_may {d0 d1 d2 : Int} {b : Bx} (h : mayD d0 d1 d2) (hb : mayB d0 d1 d2 b) (k : Fin 3) : mayB d0 d1 d2 (upB b 1 k) := by
  obtain ⟨⟨_, u0⟩, ⟨_, u1⟩, _, u2⟩ := h
  obtain ⟨h0, h1, h2⟩ := hb
  unfold mayS at h0 h1 h2
  rcases fin3 k with rfl | rfl | rfl
  · refine ⟨⟨?_, h0.2⟩, h1, h2⟩
    show (1 : Int) ≤ 1 ∧ (1 : Int) ≤ d0
    omega
  · refine ⟨h0, ⟨?_, h1.2⟩, h2⟩
    show (1 : Int) ≤ 1 ∧ (1 : Int) ≤ d1
    omega
  · refine ⟨h0, h1, ⟨?_, h2.2⟩⟩
    show (1 : Int) ≤ 1 ∧ (1 : Int) ≤ d2
    omega

theorem cabK_mem {d0 d1 d2 : Int} {b : Bx} {t0 t1 t2 : Bool} (h : mayD d0 d1 d2) (hp : mayP d0 d1 d2 b t0 t1 t2) (k : Fin 3) {n : Int} :
    n ∈ cabK d0 d1 d2 b t0 t1 t2 k ↔ ∃ o, (0 ≤ o ∧ o < d0 * d1 * d2) ∧ takes d0 d1 d2 b t0 t1 t2 k o = true ∧ n = cabW d0 d1 d2 k o := by
  have hz := runS_bd (r := dimAt d0 d1 d2 k) (s := sAt b k) (tK t0 t1 t2 k) (mayB_at hp.1 k).1
  have L := line_mem h hp.1 k hz (n := n)
  unfold cabK
  rw [most_run hp k, List.mem_flatMap]
  constructor
  · rintro ⟨m, hm, hn⟩
    obtain ⟨hmN, hf⟩ := nodesP_mem.1 hm
    obtain ⟨f1, f2⟩ := (first_has h hp.1 hmN k).1 hf
    obtain ⟨_, o, ho, hu, e⟩ := L.1 ⟨m, hmN, f1, f2, hn⟩
    exact ⟨o, ho, hu, e⟩
  · rintro ⟨o, ho, hu, e⟩
    obtain ⟨m, hmN, f1, f2, hn⟩ := L.2 ⟨takes_wired h hp ho hu, o, ho, hu, e⟩
    exact ⟨m, nodesP_mem.2 ⟨hmN, (first_has h hp.1 hmN k).2 ⟨f1, f2⟩⟩, hn⟩
theorem cabsL_mem {d0 d1 d2 : Int} {b : Bx} {t0 t1 t2 : Bool} (h : mayD d0 d1 d2) (hp : mayP d0 d1 d2 b t0 t1 t2) {n : Int} :
    n ∈ cabsL d0 d1 d2 b t0 t1 t2 ↔ ∃ (k : Fin 3) (o : Int), (0 ≤ o ∧ o < d0 * d1 * d2) ∧ takes d0 d1 d2 b t0 t1 t2 k o = true ∧ n = cabW d0 d1 d2 k o := by
  unfold cabsL
  rw [List.mem_append, List.mem_append, cabK_mem h hp, cabK_mem h hp, cabK_mem h hp]
  constructor
  · rintro ((h | h) | h)
    · exact ⟨0, h⟩
    · exact ⟨1, h⟩
    · exact ⟨2, h⟩
  · rintro ⟨k, h⟩
    rcases fin3 k with rfl | rfl | rfl
    · exact .inl (.inl h)
    · exact .inl (.inr h)
    · exact .inr h
theorem cab_node {d0 d1 d2 o : Int} (ho : 0 ≤ o ∧ o < d0 * d1 * d2) (k : Fin 3) : 0 ≤ cabW d0 d1 d2 k o ∧ cabW d0 d1 d2 k o < 3 * (d0 * d1 * d2) := by
  unfold cabW
  rcases fin3 k with rfl | rfl | rfl <;> simp only [axI] <;> omega
theorem cabs_in {d0 d1 d2 : Int} {b : Bx} {t0 t1 t2 : Bool} (h : mayD d0 d1 d2) (hp : mayP d0 d1 d2 b t0 t1 t2) (j : Nat) :
    inL (cabsL d0 d1 d2 b t0 t1 t2) j = (decide (j < (3 * (d0 * d1 * d2)).toNat) && cabB d0 d1 d2 b t0 t1 t2 (j : Int)) := by
  unfold inL
  rw [Bool.eq_iff_iff, List.contains_iff_mem, cabsL_mem h hp, Bool.and_eq_true, decide_eq_true_eq]
  constructor
  · rintro ⟨k, o, ho, ht, e⟩
    have hb := cab_node ho k
    rw [e, cabB_at ho k]
    exact ⟨by omega, ht⟩
  · rintro ⟨hj, hc⟩
    obtain ⟨k, o, ho, e⟩ := cab_of h (link := (j : Int)) (by omega)
    rw [e, cabB_at ho k] at hc
    exact ⟨k, o, ho, hc, e⟩
theorem cabs_ok {d0 d1 d2 : Int} {b : Bx} {t0 t1 t2 : Bool} (h : mayD d0 d1 d2) (hp : mayP d0 d1 d2 b t0 t1 t2) : ofOk (3 * (d0 * d1 * d2)) (cabsL d0 d1 d2 b t0 t1 t2) = true := by
  have := N_bd h
  refine ofOk_all (by omega) (by omega) fun x hx => ?_
  obtain ⟨k, o, ho, _, rfl⟩ := (cabsL_mem h hp).1 hx
  exact cab_node ho k
theorem cabs_of {d0 d1 d2 : Int} {b : Bx} {t0 t1 t2 : Bool} {ws : List Nat} (h : mayD d0 d1 d2) (hp : mayP d0 d1 d2 b t0 t1 t2) (ho : OfIs (3 * (d0 * d1 * d2)) (cabsL d0 d1 d2 b t0 t1 t2) ws) : ws = cabsW d0 d1 d2 b t0 t1 t2 :=
  setOf_of ho (cabs_ok h hp) (cabs_in h hp)

theorem cabK_len {d0 d1 d2 : Int} {b : Bx} {t0 t1 t2 : Bool} (h : mayD d0 d1 d2) (hp : mayP d0 d1 d2 b t0 t1 t2) (k : Fin 3) : (cabK d0 d1 d2 b t0 t1 t2 k).length ≤ 4096 := by
  have hz := runS_bd (r := dimAt d0 d1 d2 k) (s := sAt b k) (tK t0 t1 t2 k) (mayB_at hp.1 k).1
  have hd := dimAt_ok h k
  unfold okD at hd
  unfold cabK
  rw [most_run hp k]
  rw [flatP_len (c := if 1 < dimAt d0 d1 d2 k then (runS (dimAt d0 d1 d2 k) (sAt b k) (tK t0 t1 t2 k)).toNat else 0) (fun m hm => cables_len h (nodesP_mem.1 hm).1 k (by omega))]
  have hc : (if 1 < dimAt d0 d1 d2 k then (runS (dimAt d0 d1 d2 k) (sAt b k) (tK t0 t1 t2 k)).toNat else 0) ≤ 16 := by split <;> omega
  have hl : (nodesB d0 d1 d2 (upB b 1 k)).length ≤ 256 := by
    have hf := first_may h hp.1 k
    have e := nodes_count h (b := upB b 1 k) (fun j => ⟨(mayB_at hf j).2, by have := (mayB_at hf j).1; omega⟩)
    obtain ⟨⟨_, u0⟩, ⟨_, u1⟩, _, u2⟩ := h
    obtain ⟨⟨h0, _⟩, ⟨h1, _⟩, h2, _⟩ := hp.1
    have m1 : b.b * b.c ≤ 16 * 16 := (mul_bd (by omega) (by omega) (by omega) (by omega)).2
    have m2 : b.a * b.c ≤ 16 * 16 := (mul_bd (by omega) (by omega) (by omega) (by omega)).2
    have m3 : b.a * b.b ≤ 16 * 16 := (mul_bd (by omega) (by omega) (by omega) (by omega)).2
    rcases fin3 k with rfl | rfl | rfl <;> simp only [upB, Int.one_mul, Int.mul_one] at e ⊢ <;> omega
  exact Nat.le_trans (Nat.mul_le_mul hl hc) (by decide)
theorem cabsL_len {d0 d1 d2 : Int} {b : Bx} {t0 t1 t2 : Bool} (h : mayD d0 d1 d2) (hp : mayP d0 d1 d2 b t0 t1 t2) : (cabsL d0 d1 d2 b t0 t1 t2).length ≤ 12288 := by
  have h0 := cabK_len h hp 0
  have h1 := cabK_len h hp 1
  have h2 := cabK_len h hp 2
  unfold cabsL
  rw [List.length_append, List.length_append]
  omega

/-- The midplanes at the ends of a cable. -/
def endP (d0 d1 d2 n : Int) : List Int :=
  let N := d0 * d1 * d2
  if n < N then [n, onD d0 d1 d2 n 0 1] else if n < 2 * N then [n - N, onD d0 d1 d2 (n - N) 1 1] else [n - 2 * N, onD d0 d1 d2 (n - 2 * N) 2 1]
theorem endP_at {d0 d1 d2 o : Int} (ho : 0 ≤ o ∧ o < d0 * d1 * d2) (k : Fin 3) : endP d0 d1 d2 (cabW d0 d1 d2 k o) = [o, onD d0 d1 d2 o k 1] := by
  rcases fin3 k with rfl | rfl | rfl
  · have e : cabW d0 d1 d2 0 o = o := by unfold cabW; simp only [axI]; omega
    rw [e]
    unfold endP
    rw [if_pos ho.2]
  · have e : cabW d0 d1 d2 1 o = d0 * d1 * d2 + o := by unfold cabW; simp only [axI]; omega
    rw [e]
    unfold endP
    rw [if_neg (by omega), if_pos (by omega), show d0 * d1 * d2 + o - d0 * d1 * d2 = o by omega]
  · have e : cabW d0 d1 d2 2 o = 2 * (d0 * d1 * d2) + o := by unfold cabW; simp only [axI]
    rw [e]
    unfold endP
    rw [if_neg (by omega), if_neg (by omega), show 2 * (d0 * d1 * d2) + o - 2 * (d0 * d1 * d2) = o by omega]
def endsL (d0 d1 d2 : Int) (l : List Int) : List Int := l.flatMap (endP d0 d1 d2)
theorem endP_len (d0 d1 d2 n : Int) : (endP d0 d1 d2 n).length = 2 := by
  unfold endP
  dsimp only
  split
  · rfl
  · split <;> rfl
theorem endsL_len (d0 d1 d2 : Int) (l : List Int) : (endsL d0 d1 d2 l).length = l.length * 2 := flatP_len (fun a _ => endP_len d0 d1 d2 a)
theorem endsL_app (d0 d1 d2 : Int) (l : List Int) (n : Int) : endsL d0 d1 d2 (l ++ [n]) = endsL d0 d1 d2 l ++ endP d0 d1 d2 n := by simp [endsL]

/-- A midplane at an end of a cable that a place takes. -/
def endK (d0 d1 d2 : Int) (b : Bx) (t0 t1 t2 : Bool) (k : Fin 3) (m : Int) : Bool := decide (1 < dimAt d0 d1 d2 k) && (takes d0 d1 d2 b t0 t1 t2 k m || takes d0 d1 d2 b t0 t1 t2 k (onD d0 d1 d2 m k (-1)))
def endB (d0 d1 d2 : Int) (b : Bx) (t0 t1 t2 : Bool) (m : Int) : Bool := endK d0 d1 d2 b t0 t1 t2 0 m || endK d0 d1 d2 b t0 t1 t2 1 m || endK d0 d1 d2 b t0 t1 t2 2 m
theorem endB_iff {d0 d1 d2 m : Int} {b : Bx} {t0 t1 t2 : Bool} : endB d0 d1 d2 b t0 t1 t2 m = true ↔ ∃ k, 1 < dimAt d0 d1 d2 k ∧ (takes d0 d1 d2 b t0 t1 t2 k m = true ∨ takes d0 d1 d2 b t0 t1 t2 k (onD d0 d1 d2 m k (-1)) = true) := by
  have e : ∀ k, endK d0 d1 d2 b t0 t1 t2 k m = true ↔ 1 < dimAt d0 d1 d2 k ∧ (takes d0 d1 d2 b t0 t1 t2 k m = true ∨ takes d0 d1 d2 b t0 t1 t2 k (onD d0 d1 d2 m k (-1)) = true) := fun k => by
    unfold endK
    rw [Bool.and_eq_true, Bool.or_eq_true, decide_eq_true_eq]
  unfold endB
  rw [Bool.or_eq_true, Bool.or_eq_true, e, e, e]
  constructor
  · rintro ((h | h) | h)
    · exact ⟨0, h⟩
    · exact ⟨1, h⟩
    · exact ⟨2, h⟩
  · rintro ⟨k, h⟩
    rcases fin3 k with rfl | rfl | rfl
    · exact .inl (.inl h)
    · exact .inl (.inr h)
    · exact .inr h
theorem endsL_mem {d0 d1 d2 : Int} {b : Bx} {t0 t1 t2 : Bool} (h : mayD d0 d1 d2) (hp : mayP d0 d1 d2 b t0 t1 t2) {x : Int} :
    x ∈ endsL d0 d1 d2 (cabsL d0 d1 d2 b t0 t1 t2) ↔ (0 ≤ x ∧ x < d0 * d1 * d2) ∧ endB d0 d1 d2 b t0 t1 t2 x = true := by
  unfold endsL
  rw [List.mem_flatMap, endB_iff]
  constructor
  · rintro ⟨n, hn, hx⟩
    obtain ⟨k, o, ho, ht, rfl⟩ := (cabsL_mem h hp).1 hn
    have hw := takes_wired h hp ho ht
    rw [endP_at ho k, List.mem_cons, List.mem_singleton] at hx
    rcases hx with rfl | rfl
    · exact ⟨ho, k, hw, .inl ht⟩
    · refine ⟨on_node h ho k 1, k, hw, .inr ?_⟩
      rw [on_on h ho, show (1 : Int) + -1 = 0 by omega, on_round h ho k 0 (.inl rfl)]
      exact ht
  · rintro ⟨hx, k, hw, ht | ht⟩
    · refine ⟨cabW d0 d1 d2 k x, (cabsL_mem h hp).2 ⟨k, x, hx, ht, rfl⟩, ?_⟩
      rw [endP_at hx k]
      simp
    · have ho := on_node h hx k (-1)
      refine ⟨cabW d0 d1 d2 k (onD d0 d1 d2 x k (-1)), (cabsL_mem h hp).2 ⟨k, _, ho, ht, rfl⟩, ?_⟩
      rw [endP_at ho k, on_back h hx k]
      simp
def endsW (d0 d1 d2 : Int) (b : Bx) (t0 t1 t2 : Bool) : List Nat := setOf (d0 * d1 * d2) (fun j : Nat => endB d0 d1 d2 b t0 t1 t2 (j : Int))
theorem ends_ok {d0 d1 d2 : Int} {b : Bx} {t0 t1 t2 : Bool} (h : mayD d0 d1 d2) (hp : mayP d0 d1 d2 b t0 t1 t2) : ofOk (d0 * d1 * d2) (endsL d0 d1 d2 (cabsL d0 d1 d2 b t0 t1 t2)) = true := by
  have := N_bd h
  exact ofOk_all (by omega) (by omega) fun x hx => ((endsL_mem h hp).1 hx).1
theorem ends_of {d0 d1 d2 : Int} {b : Bx} {t0 t1 t2 : Bool} {ws : List Nat} (h : mayD d0 d1 d2) (hp : mayP d0 d1 d2 b t0 t1 t2) (ho : OfIs (d0 * d1 * d2) (endsL d0 d1 d2 (cabsL d0 d1 d2 b t0 t1 t2)) ws) : ws = endsW d0 d1 d2 b t0 t1 t2 := by
  refine setOf_of ho (ends_ok h hp) fun j => ?_
  unfold inL
  rw [Bool.eq_iff_iff, List.contains_iff_mem, endsL_mem h hp, Bool.and_eq_true, decide_eq_true_eq]
  exact ⟨fun ⟨a, b⟩ => ⟨by omega, b⟩, fun ⟨a, b⟩ => ⟨by omega, b⟩⟩

/-- What a place passes, as a set and as a list. -/
def pasB (d0 d1 d2 : Int) (b : Bx) (t0 t1 t2 : Bool) (m : Int) : Bool := endB d0 d1 d2 b t0 t1 t2 m && !hasB d0 d1 d2 b m
def passTo (d0 d1 d2 : Int) (b : Bx) (t0 t1 t2 : Bool) (k : Nat) : List Int := ofN ((List.range k).filter fun j : Nat => pasB d0 d1 d2 b t0 t1 t2 (j : Int))
def passL (d0 d1 d2 : Int) (b : Bx) (t0 t1 t2 : Bool) : List Int := passTo d0 d1 d2 b t0 t1 t2 (d0 * d1 * d2).toNat
def passW (d0 d1 d2 : Int) (b : Bx) (t0 t1 t2 : Bool) : List Nat := setOf (d0 * d1 * d2) (fun j : Nat => pasB d0 d1 d2 b t0 t1 t2 (j : Int))
theorem pass_less {d0 d1 d2 : Int} (h : mayD d0 d1 d2) (b : Bx) (t0 t1 t2 : Bool) : joinW notW (d0 * d1 * d2) (endsW d0 d1 d2 b t0 t1 t2) (midW d0 d1 d2 b) = passW d0 d1 d2 b t0 t1 t2 := by
  have := N_bd h
  exact setOf_less (by omega) (by omega) _ _
theorem pass_list {d0 d1 d2 : Int} (h : mayD d0 d1 d2) (b : Bx) (t0 t1 t2 : Bool) : listR (d0 * d1 * d2) (passW d0 d1 d2 b t0 t1 t2) = passL d0 d1 d2 b t0 t1 t2 := by
  have := N_bd h
  exact setOf_list (by omega) (by omega) _
theorem pasB_iff {d0 d1 d2 m : Int} {b : Bx} {t0 t1 t2 : Bool} : pasB d0 d1 d2 b t0 t1 t2 m = true ↔ passB d0 d1 d2 b t0 t1 t2 m := by
  unfold pasB passB
  rw [Bool.and_eq_true, endB_iff]
  constructor
  · rintro ⟨h1, h2⟩; exact ⟨by simpa using h2, h1⟩
  · rintro ⟨h1, h2⟩; exact ⟨h2, by simpa using h1⟩

end Go.Proofs.YtfbegeopiakccaaGreatDoor

/-
  A place, as the program holds it: nine cells.
-/
namespace Go.Proofs.YtfbegeopiakccaaGreatDoor
open Go Go.RowKit Go.Shelf

abbrev P9 (b : Bx) (p q r : Bool) : Value := .agg #[.int .i64 b.x, .int .i64 b.y, .int .i64 b.z, .int .i64 b.a, .int .i64 b.b, .int .i64 b.c, .bool p, .bool q, .bool r]
/-- The answer to whether a place may be. -/
def mayPB (d0 d1 d2 : Int) (b : Bx) (t0 t1 t2 : Bool) : Bool := mayBB d0 d1 d2 b && sameBx b (canonB d0 d1 d2 b) && !torB b t0 t1 t2
def errP (d0 d1 d2 : Int) (b : Bx) (t0 t1 t2 : Bool) : Int := if okDB d0 d1 d2 then codeOf (mayPB d0 d1 d2 b t0 t1 t2) else 8
theorem mayPB_iff (d0 d1 d2 : Int) (b : Bx) (t0 t1 t2 : Bool) : mayPB d0 d1 d2 b t0 t1 t2 = true ↔ mayP d0 d1 d2 b t0 t1 t2 := by
  unfold mayPB mayP
  rw [Bool.and_eq_true, Bool.and_eq_true, mayBB_iff, sameBx_iff, Bool.not_eq_true', torB_iff, and_assoc]
  exact ⟨fun ⟨a, b, c⟩ => ⟨a, b.symm, c⟩, fun ⟨a, b, c⟩ => ⟨a, b.symm, c⟩⟩
theorem errP_cases (d0 d1 d2 : Int) (b : Bx) (t0 t1 t2 : Bool) : (mayD d0 d1 d2 ∧ mayP d0 d1 d2 b t0 t1 t2 ∧ errP d0 d1 d2 b t0 t1 t2 = 0) ∨ ((errP d0 d1 d2 b t0 t1 t2 = 2 ∨ errP d0 d1 d2 b t0 t1 t2 = 8) ∧ ¬ (mayD d0 d1 d2 ∧ mayP d0 d1 d2 b t0 t1 t2)) := by
  have h1 := okDB_iff d0 d1 d2
  have h2 := mayPB_iff d0 d1 d2 b t0 t1 t2
  unfold errP
  cases e1 : okDB d0 d1 d2
  · rw [e1] at h1
    exact .inr ⟨by simp, fun h => by simp [h.1] at h1⟩
  · cases e2 : mayPB d0 d1 d2 b t0 t1 t2
    · rw [e2] at h2
      exact .inr ⟨by simp [codeOf], fun h => by simp [h.2] at h2⟩
    · exact .inl ⟨h1.1 e1, h2.1 e2, by simp [codeOf]⟩

end Go.Proofs.YtfbegeopiakccaaGreatDoor

/-
  Rotations of what is asked for, as plain arithmetic: the six orders of the axes, each once, rising; how many there are; that each has the same.
-/
namespace Go.Proofs.YtfbegeopiakccaaGreatDoor

/-- What is asked for: three lengths, three tori, whether it may be turned. -/
abbrev Wt := Int × Int × Int × Bool × Bool × Bool × Bool
def bit (b : Bool) : Int := if b then 1 else 0
theorem bit_cases (b : Bool) : bit b = 0 ∨ bit b = 1 := by cases b <;> simp [bit]
theorem bit_inj {a b : Bool} (h : bit a = bit b) : a = b := by cases a <;> cases b <;> simp [bit] at h ⊢
def mayT : Wt → Prop | (x, y, z, _) => 1 ≤ x ∧ x ≤ 16 ∧ 1 ≤ y ∧ y ≤ 16 ∧ 1 ≤ z ∧ z ≤ 16
/-- Where one stands in the order. -/
def keyT : Wt → Int | (x, y, z, p, q, r, _) => ((((x * 32 + y) * 32 + z) * 2 + bit p) * 2 + bit q) * 2 + bit r
def turnT : Wt → Bool | (_, _, _, _, _, _, t) => t
/-- One is ahead of another one, as the document says it. -/
def lessT : Wt → Wt → Bool
  | (x, y, z, p, q, r, _), (x', y', z', p', q', r', _) =>
    if x ≠ x' then decide (x < x') else if y ≠ y' then decide (y < y') else if z ≠ z' then decide (z < z') else
    if p ≠ p' then decide (bit p < bit p') else if q ≠ q' then decide (bit q < bit q') else if r ≠ r' then decide (bit r < bit r') else false

theorem less_key {a b : Wt} (ha : mayT a) (hb : mayT b) : lessT a b = decide (keyT a < keyT b) := by
  obtain ⟨x, y, z, p, q, r, t⟩ := a
  obtain ⟨x', y', z', p', q', r', t'⟩ := b
  simp only [mayT] at ha hb
  have b1 := bit_cases p
  have b2 := bit_cases q
  have b3 := bit_cases r
  have b4 := bit_cases p'
  have b5 := bit_cases q'
  have b6 := bit_cases r'
  rw [Bool.eq_iff_iff, decide_eq_true_eq]
  simp only [lessT, keyT]
  by_cases e1 : x = x'
  · subst e1
    rw [if_neg (by simp)]
    by_cases e2 : y = y'
    · subst e2
      rw [if_neg (by simp)]
      by_cases e3 : z = z'
      · subst e3
        rw [if_neg (by simp)]
        by_cases e4 : p = p'
        · subst e4
          rw [if_neg (by simp)]
          by_cases e5 : q = q'
          · subst e5
            rw [if_neg (by simp)]
            by_cases e6 : r = r'
            · subst e6
              rw [if_neg (by simp)]
              simp only [Bool.false_eq_true, false_iff]
              omega
            · have k : bit r ≠ bit r' := fun h => e6 (bit_inj h)
              rw [if_pos e6, decide_eq_true_eq]
              omega
          · have k : bit q ≠ bit q' := fun h => e5 (bit_inj h)
            rw [if_pos e5, decide_eq_true_eq]
            omega
        · have k : bit p ≠ bit p' := fun h => e4 (bit_inj h)
          rw [if_pos e4, decide_eq_true_eq]
          omega
      · rw [if_pos e3, decide_eq_true_eq]
        omega
    · rw [if_pos e2, decide_eq_true_eq]
      omega
  · rw [if_pos e1, decide_eq_true_eq]
    omega

theorem key_inj {a b : Wt} (ha : mayT a) (hb : mayT b) (ht : turnT a = turnT b) (h : keyT a = keyT b) : a = b := by
  obtain ⟨x, y, z, p, q, r, t⟩ := a
  obtain ⟨x', y', z', p', q', r', t'⟩ := b
  simp only [mayT] at ha hb
  simp only [turnT] at ht
  simp only [keyT] at h
  have b1 := bit_cases p; have b2 := bit_cases q; have b3 := bit_cases r
  have b4 := bit_cases p'; have b5 := bit_cases q'; have b6 := bit_cases r'
  have e1 : x = x' := by omega
  have e2 : y = y' := by omega
  have e3 : z = z' := by omega
  have e4 : p = p' := bit_inj (by omega)
  have e5 : q = q' := bit_inj (by omega)
  have e6 : r = r' := bit_inj (by omega)
  subst e1 e2 e3 e4 e5 e6 ht
  rfl

/-- Lists that rise are told by what is in them. -/
def Rises (l : List Wt) : Prop := l.Pairwise fun a b => keyT a < keyT b
theorem rises_ext : ∀ {a b : List Wt}, Rises a → Rises b → (∀ x, x ∈ a ↔ x ∈ b) → a = b
  | [], [], _, _, _ => rfl
  | [], y :: bs, _, _, h => absurd ((h y).2 (by simp)) (by simp)
  | x :: a, [], _, _, h => absurd ((h x).1 (by simp)) (by simp)
  | x :: a, y :: bs, ha, hb, h => by
    have hxa := (List.pairwise_cons.1 ha).1
    have hyb := (List.pairwise_cons.1 hb).1
    have e : x = y := by
      rcases List.mem_cons.1 ((h x).1 (by simp)) with e | hx
      · exact e
      · rcases List.mem_cons.1 ((h y).2 (by simp)) with e | hy
        · exact e.symm
        · have := hxa y hy
          have := hyb x hx
          omega
    subst e
    congr 1
    refine rises_ext (List.pairwise_cons.1 ha).2 (List.pairwise_cons.1 hb).2 fun z => ?_
    constructor
    · intro hz
      rcases List.mem_cons.1 ((h z).1 (by simp [hz])) with e | hz'
      · have := hxa z hz
        rw [e] at this; omega
      · exact hz'
    · intro hz
      rcases List.mem_cons.1 ((h z).2 (by simp [hz])) with e | hz'
      · have := hyb z hz
        rw [e] at this; omega
      · exact hz'
theorem rises_nodup {l : List Wt} (h : Rises l) : l.Nodup := h.imp fun hab e => by rw [e] at hab; omega

/-- One more is put in at its place. -/
def insT (w : Wt) : List Wt → List Wt
  | [] => [w]
  | x :: l => if keyT w < keyT x then w :: x :: l else x :: insT w l
theorem ins_mem {w x : Wt} : ∀ {l : List Wt}, x ∈ insT w l ↔ x = w ∨ x ∈ l
  | [] => by simp [insT]
  | y :: l => by
    unfold insT
    split
    · simp
    · rw [List.mem_cons, ins_mem, List.mem_cons]
      constructor
      · rintro (h | h | h) <;> simp [h]
      · rintro (h | h | h) <;> simp [h]
theorem ins_rises {w : Wt} : ∀ {l : List Wt}, Rises l → (∀ x ∈ l, keyT x ≠ keyT w) → Rises (insT w l)
  | [], _, _ => by simp [insT, Rises]
  | y :: l, h, hn => by
    have hy := (List.pairwise_cons.1 h).1
    unfold insT
    split
    · rename_i hlt
      refine List.pairwise_cons.2 ⟨fun z hz => ?_, h⟩
      rcases List.mem_cons.1 hz with e | hz
      · rw [e]; exact hlt
      · have := hy z hz; omega
    · rename_i hge
      refine List.pairwise_cons.2 ⟨fun z hz => ?_, ins_rises (List.pairwise_cons.1 h).2 (fun x hx => hn x (by simp [hx]))⟩
      rcases ins_mem.1 hz with e | hz
      · have := hn y (by simp)
        rw [e]; omega
      · exact hy z hz
def putT (l : List Wt) (w : Wt) : List Wt := if w ∈ l then l else insT w l
theorem put_mem {l : List Wt} {w x : Wt} : x ∈ putT l w ↔ x = w ∨ x ∈ l := by
  unfold putT
  split
  · rename_i h
    constructor
    · exact .inr
    · rintro (e | hx)
      · rw [e]; exact h
      · exact hx
  · exact ins_mem
theorem put_rises {l : List Wt} {w : Wt} (h : Rises l) (hw : mayT w) (hl : ∀ x ∈ l, mayT x ∧ turnT x = turnT w) : Rises (putT l w) := by
  unfold putT
  split
  · exact h
  · rename_i hn
    refine ins_rises h fun x hx e => hn ?_
    have := key_inj (hl x hx).1 hw (hl x hx).2 e
    rw [← this]; exact hx

/-- The orders of the axes. -/
def s01 : Wt → Wt | (x, y, z, p, q, r, t) => (y, x, z, q, p, r, t)
def s02 : Wt → Wt | (x, y, z, p, q, r, t) => (z, y, x, r, q, p, t)
def s12 : Wt → Wt | (x, y, z, p, q, r, t) => (x, z, y, p, r, q, t)
def others (w : Wt) : List Wt := [s01 w, s02 w, s12 w, s12 (s01 w), s02 (s01 w)]
def six (w : Wt) : List Wt := w :: others w
def turnsT (w : Wt) : List Wt := if turnT w then (others w).foldl putT [w] else [w]

theorem six_may {w x : Wt} (hw : mayT w) (hx : x ∈ six w) : mayT x ∧ turnT x = turnT w := by
  obtain ⟨a, b, c, p, q, r, t⟩ := w
  simp only [mayT] at hw
  simp only [six, others, s01, s02, s12, List.mem_cons, List.not_mem_nil, or_false] at hx
  rcases hx with rfl | rfl | rfl | rfl | rfl | rfl <;> simp only [mayT, turnT, and_true] <;> omega
theorem fold_mem {x : Wt} : ∀ (os l : List Wt), x ∈ os.foldl putT l ↔ x ∈ os ∨ x ∈ l
  | [], l => by simp
  | o :: os, l => by
    rw [List.foldl_cons, fold_mem os, put_mem, List.mem_cons]
    constructor
    · rintro (h | h | h) <;> simp [h]
    · rintro ((h | h) | h) <;> simp [h]
theorem fold_rises {t : Bool} : ∀ (os l : List Wt), (∀ o ∈ os, mayT o ∧ turnT o = t) → (∀ x ∈ l, mayT x ∧ turnT x = t) → Rises l → Rises (os.foldl putT l)
  | [], l, _, _, h => h
  | o :: os, l, ho, hl, h => by
    have h1 := ho o (by simp)
    refine fold_rises os _ (fun x hx => ho x (by simp [hx])) (fun x hx => ?_) (put_rises h h1.1 fun x hx => ⟨(hl x hx).1, (hl x hx).2.trans h1.2.symm⟩)
    rcases put_mem.1 hx with e | hx
    · rw [e]; exact h1
    · exact hl x hx
theorem turns_mem {w x : Wt} (ht : turnT w = true) : x ∈ turnsT w ↔ x ∈ six w := by
  unfold turnsT six
  simp only [if_pos ht, fold_mem, List.mem_cons, List.not_mem_nil, or_false]
  exact Or.comm
theorem turns_rises {w : Wt} (hw : mayT w) : Rises (turnsT w) := by
  unfold turnsT
  split
  · refine fold_rises (t := turnT w) _ _ (fun o ho => six_may hw (by simp [six, ho])) (fun x hx => ?_) (by simp [Rises])
    rw [List.mem_singleton.1 hx]; exact ⟨hw, rfl⟩
  · simp [Rises]

/-- Each of them has the same. -/
theorem six_same {w x : Wt} (hx : x ∈ six w) (y : Wt) : y ∈ six x ↔ y ∈ six w := by
  obtain ⟨a, b, c, p, q, r, t⟩ := w
  simp only [six, others, s01, s02, s12, List.mem_cons, List.not_mem_nil, or_false] at hx ⊢
  rcases hx with rfl | rfl | rfl | rfl | rfl | rfl <;> simp only [] <;> grind
theorem turns_same {w x : Wt} (hw : mayT w) (ht : turnT w = true) (hx : x ∈ turnsT w) : turnsT x = turnsT w := by
  have h6 := (turns_mem ht).1 hx
  obtain ⟨hmx, htx⟩ := six_may hw h6
  refine rises_ext (turns_rises hmx) (turns_rises hw) fun y => ?_
  rw [turns_mem (htx.trans ht), turns_mem ht]
  exact six_same h6 y
/-- As many midplanes, as many tori. -/
def prodT : Wt → Int | (x, y, z, _) => x * y * z
def toriT : Wt → Int | (_, _, _, p, q, r, _) => bit p + bit q + bit r
theorem six_prod {w x : Wt} (hx : x ∈ six w) : prodT x = prodT w ∧ toriT x = toriT w := by
  obtain ⟨a, b, c, p, q, r, t⟩ := w
  simp only [six, others, s01, s02, s12, List.mem_cons, List.not_mem_nil, or_false] at hx
  rcases hx with rfl | rfl | rfl | rfl | rfl | rfl <;> exact ⟨by first | rfl | (simp only [prodT]; ac_rfl), by simp only [toriT]; try omega⟩

theorem len_le : ∀ (a b : List Wt), a.Nodup → (∀ x ∈ a, x ∈ b) → a.length ≤ b.length
  | [], b, _, _ => Nat.zero_le _
  | x :: a, b, hn, hs => by
    have hx := hs x (by simp)
    have ih := len_le a (b.erase x) (List.nodup_cons.1 hn).2 fun y hy => by
      have hne : y ≠ x := fun e => (List.nodup_cons.1 hn).1 (e ▸ hy)
      exact (List.mem_erase_of_ne hne).2 (hs y (by simp [hy]))
    rw [List.length_erase_of_mem hx] at ih
    have : 0 < b.length := List.length_pos_of_mem hx
    simp only [List.length_cons]
    omega
theorem len_eq {a b : List Wt} (ha : a.Nodup) (hb : b.Nodup) (h : ∀ x, x ∈ a ↔ x ∈ b) : a.length = b.length :=
  Nat.le_antisymm (len_le a b ha fun x hx => (h x).1 hx) (len_le b a hb fun x hx => (h x).2 hx)
/-- There are 1, 3 or 6. -/
theorem turns_count {w : Wt} (hw : mayT w) (ht : turnT w = true) : (turnsT w).length = 1 ∨ (turnsT w).length = 3 ∨ (turnsT w).length = 6 := by
  have hn := rises_nodup (turns_rises hw)
  have hm := fun x => turns_mem (w := w) (x := x) ht
  obtain ⟨a, b, c, p, q, r, t⟩ := w
  by_cases e01 : a = b ∧ p = q
  · by_cases e12 : b = c ∧ q = r
    · left
      rw [len_eq hn (b := [(a, b, c, p, q, r, t)]) (by simp) fun x => by
        rw [hm x]
        obtain ⟨rfl, rfl⟩ := e01
        obtain ⟨rfl, rfl⟩ := e12
        simp [six, others, s01, s02, s12]]
      rfl
    · right; left
      rw [len_eq hn (b := [(a, b, c, p, q, r, t), (c, b, a, r, q, p, t), (a, c, b, p, r, q, t)]) (by
        obtain ⟨rfl, rfl⟩ := e01
        simp only [List.nodup_cons, List.mem_cons, List.not_mem_nil, or_false, not_or, Prod.mk.injEq, List.nodup_nil, not_false_eq_true, and_true]
        grind) fun x => by
        rw [hm x]
        obtain ⟨rfl, rfl⟩ := e01
        simp only [six, others, s01, s02, s12, List.mem_cons, List.not_mem_nil, or_false]
        grind]
      rfl
  · by_cases e12 : b = c ∧ q = r
    · right; left
      rw [len_eq hn (b := [(a, b, c, p, q, r, t), (b, a, c, q, p, r, t), (c, b, a, r, q, p, t)]) (by
        obtain ⟨rfl, rfl⟩ := e12
        simp only [List.nodup_cons, List.mem_cons, List.not_mem_nil, or_false, not_or, Prod.mk.injEq, List.nodup_nil, not_false_eq_true, and_true]
        grind) fun x => by
        rw [hm x]
        obtain ⟨rfl, rfl⟩ := e12
        simp only [six, others, s01, s02, s12, List.mem_cons, List.not_mem_nil, or_false]
        grind]
      rfl
    · by_cases e02 : a = c ∧ p = r
      · right; left
        rw [len_eq hn (b := [(a, b, c, p, q, r, t), (b, a, c, q, p, r, t), (a, c, b, p, r, q, t)]) (by
          obtain ⟨rfl, rfl⟩ := e02
          simp only [List.nodup_cons, List.mem_cons, List.not_mem_nil, or_false, not_or, Prod.mk.injEq, List.nodup_nil, not_false_eq_true, and_true]
          grind) fun x => by
          rw [hm x]
          obtain ⟨rfl, rfl⟩ := e02
          simp only [six, others, s01, s02, s12, List.mem_cons, List.not_mem_nil, or_false]
          grind]
        rfl
      · right; right
        rw [len_eq hn (b := six (a, b, c, p, q, r, t)) (by
          clear hm hn hw ht
          simp only [six, others, s01, s02, s12, List.nodup_cons, List.mem_cons, List.not_mem_nil, or_false, not_or, Prod.mk.injEq, List.nodup_nil, not_false_eq_true, and_true]
          refine ⟨⟨?_, ?_, ?_, ?_, ?_⟩, ⟨?_, ?_, ?_, ?_⟩, ⟨?_, ?_, ?_⟩, ⟨?_, ?_⟩, ?_⟩ <;> grind) fun x => hm x]
        rfl

/-- What fits dimensions. -/
abbrev D3 := Int × Int × Int
def withinT : D3 → Wt → Bool | (a, b, c), (x, y, z, _) => decide (x ≤ a) && decide (y ≤ b) && decide (z ≤ c)
def fitsT (d : D3) (w : Wt) : Bool := (turnsT w).any (withinT d)
theorem fits_iff {d : D3} {w : Wt} : fitsT d w = true ↔ ∃ x ∈ turnsT w, withinT d x = true := List.any_eq_true
theorem within_more {a b c a' b' c' : Int} {w : Wt} (h0 : a ≤ a') (h1 : b ≤ b') (h2 : c ≤ c') (h : withinT (a, b, c) w = true) : withinT (a', b', c') w = true := by
  obtain ⟨x, y, z, p, q, r, t⟩ := w
  simp only [withinT, Bool.and_eq_true, decide_eq_true_eq] at h ⊢
  omega
theorem fits_more {a b c a' b' c' : Int} {w : Wt} (h0 : a ≤ a') (h1 : b ≤ b') (h2 : c ≤ c') (h : fitsT (a, b, c) w = true) : fitsT (a', b', c') w = true := by
  obtain ⟨x, hx, hw⟩ := fits_iff.1 h
  exact fits_iff.2 ⟨x, hx, within_more h0 h1 h2 hw⟩
def freeT : Wt → Wt | (x, y, z, p, q, r, _) => (x, y, z, p, q, r, true)
theorem within_free (d : D3) (w : Wt) : withinT d (freeT w) = withinT d w := by
  obtain ⟨x, y, z, p, q, r, t⟩ := w
  obtain ⟨a, b, c⟩ := d
  rfl
/-- What fits unturned fits turned. -/
theorem fits_free {d : D3} {w : Wt} (h : fitsT d w = true) : fitsT d (freeT w) = true := by
  cases ht : turnT w
  · obtain ⟨x, hx, hw⟩ := fits_iff.1 h
    rw [turnsT, if_neg (by simp [ht]), List.mem_singleton] at hx
    subst hx
    refine fits_iff.2 ⟨freeT x, (turns_mem (by obtain ⟨x, y, z, p, q, r, t⟩ := x; rfl)).2 (by simp [six]), ?_⟩
    rw [within_free]; exact hw
  · have e : freeT w = w := by
      obtain ⟨x, y, z, p, q, r, t⟩ := w
      simp only [turnT] at ht
      subst ht
      rfl
    rw [e]; exact h
theorem six_swaps {w x : Wt} (hx : x ∈ six w) : s01 x ∈ six w ∧ s02 x ∈ six w ∧ s12 x ∈ six w := by
  obtain ⟨a, b, c, p, q, r, t⟩ := w
  simp only [six, others, s01, s02, s12, List.mem_cons, List.not_mem_nil, or_false] at hx ⊢
  rcases hx with rfl | rfl | rfl | rfl | rfl | rfl <;> simp
theorem fits_swap {d d' : D3} {s : Wt → Wt} {w : Wt} (ht : turnT w = true) (hs : ∀ x, x ∈ six w → s x ∈ six w) (hw : ∀ x, withinT d x = true → withinT d' (s x) = true) (h : fitsT d w = true) : fitsT d' w = true := by
  obtain ⟨x, hx, hx2⟩ := fits_iff.1 h
  exact fits_iff.2 ⟨s x, (turns_mem ht).2 (hs x ((turns_mem ht).1 hx)), hw x hx2⟩
theorem within_01 (a b c : Int) (w : Wt) : withinT (b, a, c) (s01 w) = withinT (a, b, c) w := by
  obtain ⟨x, y, z, p, q, r, t⟩ := w
  show (decide (y ≤ b) && decide (x ≤ a) && decide (z ≤ c)) = (decide (x ≤ a) && decide (y ≤ b) && decide (z ≤ c))
  cases decide (x ≤ a) <;> cases decide (y ≤ b) <;> rfl
theorem within_02 (a b c : Int) (w : Wt) : withinT (c, b, a) (s02 w) = withinT (a, b, c) w := by
  obtain ⟨x, y, z, p, q, r, t⟩ := w
  show (decide (z ≤ c) && decide (y ≤ b) && decide (x ≤ a)) = (decide (x ≤ a) && decide (y ≤ b) && decide (z ≤ c))
  cases decide (x ≤ a) <;> cases decide (y ≤ b) <;> cases decide (z ≤ c) <;> rfl
theorem within_12 (a b c : Int) (w : Wt) : withinT (a, c, b) (s12 w) = withinT (a, b, c) w := by
  obtain ⟨x, y, z, p, q, r, t⟩ := w
  show (decide (x ≤ a) && decide (z ≤ c) && decide (y ≤ b)) = (decide (x ≤ a) && decide (y ≤ b) && decide (z ≤ c))
  cases decide (x ≤ a) <;> cases decide (y ≤ b) <;> cases decide (z ≤ c) <;> rfl
/-- What may be turned fits just if it does in dimensions that are turned. -/
theorem fits_01 {a b c : Int} {w : Wt} (ht : turnT w = true) : fitsT (b, a, c) w = fitsT (a, b, c) w := by
  rw [Bool.eq_iff_iff]
  exact ⟨fits_swap (s := s01) ht (fun x hx => (six_swaps hx).1) fun x h => (within_01 b a c x).trans h, fits_swap (s := s01) ht (fun x hx => (six_swaps hx).1) fun x h => (within_01 a b c x).trans h⟩
theorem fits_02 {a b c : Int} {w : Wt} (ht : turnT w = true) : fitsT (c, b, a) w = fitsT (a, b, c) w := by
  rw [Bool.eq_iff_iff]
  exact ⟨fits_swap (s := s02) ht (fun x hx => (six_swaps hx).2.1) fun x h => (within_02 c b a x).trans h, fits_swap (s := s02) ht (fun x hx => (six_swaps hx).2.1) fun x h => (within_02 a b c x).trans h⟩
theorem fits_12 {a b c : Int} {w : Wt} (ht : turnT w = true) : fitsT (a, c, b) w = fitsT (a, b, c) w := by
  rw [Bool.eq_iff_iff]
  exact ⟨fits_swap (s := s12) ht (fun x hx => (six_swaps hx).2.2) fun x h => (within_12 a c b x).trans h, fits_swap (s := s12) ht (fun x hx => (six_swaps hx).2.2) fun x h => (within_12 a b c x).trans h⟩

end Go.Proofs.YtfbegeopiakccaaGreatDoor
