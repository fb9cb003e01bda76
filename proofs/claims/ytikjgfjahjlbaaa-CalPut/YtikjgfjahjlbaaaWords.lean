/-
  Rows of words and of whole numbers, wherever in memory they lie: what a walk asks of a slice that it reads.
-/
import Derived.Test.YtikjgfjahjlbaaaDraw
import Derived.Test.YtikjgfjahjlbaaaSetMath
import Derived.Test.YtikjgfjahjlbaaaProg
import Derived.OwnWalk
import Derived.Laws.BitsAllLaws
import Derived.Laws.ShiftsVarLaws
namespace Go.Proofs.Ytikjgfjahjlbaaa
open Go Go.RowKit Go.Shelf

abbrev U (x : Nat) : Value := .int .u64 (x : Int)

/-- The slice v reads as the values vs. -/
def Sl (W : World) (v : Value) (vs : List Value) : Prop :=
  ∃ ao cap, v = .slice ao vs.length cap ∧ ∀ k, k < vs.length → ∃ g off, ao = some ⟨g, off, none⟩ ∧ g < W.heap.size ∧ W.cell? ⟨g, off + k, none⟩ = vs[k]?
theorem Sl.later {W W' : World} {v : Value} {vs : List Value} (h : Sl W v vs) (hb : Below W.heap.size W W') : Sl W' v vs := by
  obtain ⟨ao, cap, e, h⟩ := h
  refine ⟨ao, cap, e, fun k hk => ?_⟩
  obtain ⟨g, off, e, hg, hc⟩ := h k hk
  exact ⟨g, off, e, Nat.lt_of_lt_of_le hg hb.size, (hb.cell (p := ⟨g, off + k, none⟩) hg).trans hc⟩
theorem Sl.nil (W : World) : Sl W (.slice none 0 0) [] := ⟨none, 0, rfl, fun k hk => by simp at hk⟩
theorem Sl.blk {W : World} {g : Nat} {t : TypeId} {vs : List Value} (h : Blk W g t vs.toArray) (cap : Nat) : Sl W (.slice (some ⟨g, 0, none⟩) vs.length cap) vs :=
  ⟨_, _, rfl, fun k hk => ⟨g, 0, rfl, h.lt, by rw [Nat.zero_add, h.cell k]; simp⟩⟩

/-- A row of words; a row of whole numbers. -/
def Wds (W : World) (v : Value) (ws : List Nat) : Prop := (∀ x ∈ ws, x < 18446744073709551616) ∧ Sl W v (ws.map U)
def Its (W : World) (v : Value) (xs : List Int) : Prop := Sl W v (xs.map I)
theorem Wds.later {W W' : World} {v : Value} {ws : List Nat} (h : Wds W v ws) (hb : Below W.heap.size W W') : Wds W' v ws := ⟨h.1, h.2.later hb⟩
theorem Its.later {W W' : World} {v : Value} {xs : List Int} (h : Its W v xs) (hb : Below W.heap.size W W') : Its W' v xs := Sl.later h hb
theorem Wds.nil (W : World) : Wds W (.slice none 0 0) [] := ⟨fun _ h => (by cases h), Sl.nil W⟩
theorem Its.nil (W : World) : Its W (.slice none 0 0) [] := Sl.nil W
theorem Wds.view {W : World} {v : Value} {ws : List Nat} (h : Wds W v ws) :
    ∃ ao cap, v = .slice ao ws.length cap ∧ ∀ k, k < ws.length → ∃ g off, ao = some ⟨g, off, none⟩ ∧ g < W.heap.size ∧ W.cell? ⟨g, off + k, none⟩ = some (U (ws.getD k 0)) := by
  obtain ⟨_, ao, cap, e, h⟩ := h
  refine ⟨ao, cap, by simpa using e, fun k hk => ?_⟩
  obtain ⟨g, off, e, hg, hc⟩ := h k (by simpa using hk)
  exact ⟨g, off, e, hg, by rw [hc]; simp [hk]⟩
theorem Its.view {W : World} {v : Value} {xs : List Int} (h : Its W v xs) :
    ∃ ao cap, v = .slice ao xs.length cap ∧ ∀ k, k < xs.length → ∃ g off, ao = some ⟨g, off, none⟩ ∧ g < W.heap.size ∧ W.cell? ⟨g, off + k, none⟩ = some (I (xs.getD k 0)) := by
  obtain ⟨ao, cap, e, h⟩ := h
  refine ⟨ao, cap, by simpa using e, fun k hk => ?_⟩
  obtain ⟨g, off, e, hg, hc⟩ := h k (by simpa using hk)
  exact ⟨g, off, e, hg, by rw [hc]; simp [hk]⟩
theorem Wds.word {W : World} {v : Value} {ws : List Nat} (h : Wds W v ws) (k : Nat) : ws.getD k 0 < 18446744073709551616 := by
  by_cases hk : k < ws.length
  · have := h.1 (ws[k]) (List.getElem_mem hk)
    simpa [hk] using this
  · simp [Nat.not_lt.1 hk]

/-- One bit of a word, as the program asks for it. -/
theorem bit_of (x j : Nat) (hx : x < 18446744073709551616) : (bits .and .u64 ((x : Int) / 2 ^ j) 1 == 1) = x.testBit j := by
  have e : (x : Int) / 2 ^ j = ((x / 2 ^ j : Nat) : Int) := by norm_cast
  rw [e, show (1 : Int) = ((1 : Nat) : Int) from rfl, u64_and_nat _ _ (Nat.lt_of_le_of_lt (Nat.div_le_self _ _) hx) (by decide), Nat.and_one_is_mod]
  rw [Nat.testBit_eq_decide_div_mod_eq]
  have : x / 2 ^ j % 2 = 0 ∨ x / 2 ^ j % 2 = 1 := by omega
  rcases this with h | h <;> rw [h] <;> rfl

theorem hasW_out {ws : List Nat} {k : Nat} (h : ws.length ≤ k / 64) : hasW ws k = false := by
  unfold hasW
  simp [h]
theorem hasW_past {ws : List Nat} {k : Nat} (h : 64 * ws.length ≤ k) : hasW ws k = false := hasW_out (by omega)

/-- A set below n may be. -/
def maySet (n : Nat) (ws : List Nat) : Bool := decide (ws.length = (n + 63) / 64) && (List.range (64 * ws.length)).all fun k => decide (k < n) || !hasW ws k
theorem mayS_iff {n : Nat} {ws : List Nat} : maySet n ws = true ↔ ws.length = (n + 63) / 64 ∧ ∀ k, n ≤ k → hasW ws k = false := by
  unfold maySet
  rw [Bool.and_eq_true, decide_eq_true_eq, List.all_eq_true]
  constructor
  · rintro ⟨h1, h2⟩
    refine ⟨h1, fun k hk => ?_⟩
    by_cases hl : k < 64 * ws.length
    · have := h2 k (List.mem_range.2 hl)
      simpa [Nat.not_lt.2 hk] using this
    · exact hasW_past (by omega)
  · rintro ⟨h1, h2⟩
    refine ⟨h1, fun k _ => ?_⟩
    by_cases hk : k < n
    · simp [hk]
    · simp [h2 k (by omega)]
theorem mayS_len {n : Nat} {ws : List Nat} (h : ws.length ≠ (n + 63) / 64) : maySet n ws = false := by simp [maySet, h]
theorem mayS_no {n k : Nat} {ws : List Nat} (hk : n ≤ k) (h : hasW ws k = true) : maySet n ws = false := by
  cases e : maySet n ws
  · rfl
  · rw [(mayS_iff.1 e).2 k hk] at h; cases h
theorem mayS_full {n : Nat} {ws : List Nat} (hl : ws.length = (n + 63) / 64) (h0 : n % 64 = 0) : maySet n ws = true :=
  mayS_iff.2 ⟨hl, fun k hk => hasW_past (by omega)⟩
theorem mayS_last {n : Nat} {ws : List Nat} (hx : ws.getD (ws.length - 1) 0 < 18446744073709551616) (hn : 1 ≤ n) (hl : ws.length = (n + 63) / 64) (h0 : n % 64 ≠ 0) : maySet n ws = ((ws.getD (ws.length - 1) 0 : Int) / 2 ^ (n % 64) == 0) := by
  have e : ((ws.getD (ws.length - 1) 0 : Nat) : Int) / 2 ^ (n % 64) = ((ws.getD (ws.length - 1) 0 / 2 ^ (n % 64) : Nat) : Int) := by norm_cast
  rw [e, Bool.eq_iff_iff, mayS_iff]
  simp only [beq_iff_eq]
  have hp : 0 < 2 ^ (n % 64) := Nat.two_pow_pos _
  constructor
  · rintro ⟨_, h⟩
    have : ws.getD (ws.length - 1) 0 < 2 ^ (n % 64) := by
      apply Nat.lt_pow_two_of_testBit
      intro i hi
      by_cases h64 : i < 64
      · have := h (64 * (ws.length - 1) + i) (by omega)
        rwa [hasW_at _ _ _ h64] at this
      · exact Nat.testBit_lt_two_pow (Nat.lt_of_lt_of_le hx (Nat.pow_le_pow_right (n := 2) (i := 64) (by omega) (by omega)))
    rw [Nat.div_eq_of_lt this]; rfl
  · intro h
    have h : ws.getD (ws.length - 1) 0 / 2 ^ (n % 64) = 0 := by exact_mod_cast h
    refine ⟨hl, fun k hk => ?_⟩
    by_cases hk2 : k < 64 * ws.length
    · have : k = 64 * (ws.length - 1) + k % 64 := by omega
      rw [this, hasW_at _ _ _ (Nat.mod_lt k (by omega))]
      have hlt : ws.getD (ws.length - 1) 0 < 2 ^ (n % 64) := by
        rcases Nat.div_eq_zero_iff.1 h with h' | h'
        · omega
        · exact h'
      exact Nat.testBit_lt_two_pow (Nat.lt_of_lt_of_le hlt (Nat.pow_le_pow_right (by omega) (by omega)))
    · exact hasW_past (by omega)

/-- The error of some sets below n. -/
def okN (n : Int) : Bool := decide (1 ≤ n ∧ n ≤ 12288)
def errAll (n : Int) (wss : List (List Nat)) : Int := if okN n then (if wss.all (maySet n.toNat) then 0 else 8) else 2
theorem errAll_bad {n : Int} (h : ¬ (1 ≤ n ∧ n ≤ 12288)) (wss : List (List Nat)) : errAll n wss = 2 := by simp [errAll, okN, h]
theorem errAll_not {n : Nat} {wss : List (List Nat)} (h : 1 ≤ n ∧ n ≤ 12288) {k : Nat} (hk : k < wss.length) (hm : maySet n (wss.getD k []) = false) : errAll n wss = 8 := by
  have e : okN (n : Int) = true := by simp [okN]; omega
  unfold errAll
  rw [if_pos e, if_neg]
  intro ha
  have := List.all_eq_true.1 ha (wss[k]) (List.getElem_mem hk)
  simp [hk] at hm
  simp [hm] at this
theorem errAll_ok {n : Nat} {wss : List (List Nat)} (h : 1 ≤ n ∧ n ≤ 12288) (hm : ∀ k, k < wss.length → maySet n (wss.getD k []) = true) : errAll n wss = 0 := by
  have e : okN (n : Int) = true := by simp [okN]; omega
  unfold errAll
  rw [if_pos e, if_pos]
  apply List.all_eq_true.2
  intro x hx
  obtain ⟨k, hk, rfl⟩ := List.mem_iff_getElem.1 hx
  have := hm k hk
  simpa [hk] using this

end Go.Proofs.Ytikjgfjahjlbaaa
