/-
  Rotations of what is asked for, as plain arithmetic: the six orders of the axes, each once, rising; how many there are; that each has the same.
-/
import Derived.Test.YtanhhlekbdhfmaaDoorKit
namespace Go.Proofs.YtanhhlekbdhfmaaDoor

/-- What is asked for: three lengths, three tori, whether it may be turned. -/
abbrev Wt := Int × Int × Int × Bool × Bool × Bool × Bool
def bit (b : Bool) : Int := if b then 1 else 0
theorem bit_cases (b : Bool) : bit b = 0 ∨ bit b = 1 := by cases b <;> simp [bit]
theorem bit_inj {a b : Bool} (h : bit a = bit b) : a = b := by cases a <;> cases b <;> simp [bit] at h ⊢
def mayT : Wt → Prop | (x, y, z, _) => 1 ≤ x ∧ x ≤ 16 ∧ 1 ≤ y ∧ y ≤ 16 ∧ 1 ≤ z ∧ z ≤ 16
/-- Where one stands in the order. -/
def keyT : Wt → Int | (x, y, z, p, q, r, _) => ((((x * 32 + y) * 32 + z) * 2 + bit p) * 2 + bit q) * 2 + bit r
def turnT : Wt → Bool | (_, _, _, _, _, _, t) => t
/-- One is ahead of another one, as the document says it. -/
def lessT : Wt → Wt → Bool
  | (x, y, z, p, q, r, _), (x', y', z', p', q', r', _) =>
    if x ≠ x' then decide (x < x') else if y ≠ y' then decide (y < y') else if z ≠ z' then decide (z < z') else
    if p ≠ p' then decide (bit p < bit p') else if q ≠ q' then decide (bit q < bit q') else if r ≠ r' then decide (bit r < bit r') else false

theorem less_key {a b : Wt} (ha : mayT a) (hb : mayT b) : lessT a b = decide (keyT a < keyT b) := by
  obtain ⟨x, y, z, p, q, r, t⟩ := a
  obtain ⟨x', y', z', p', q', r', t'⟩ := b
  simp only [mayT] at ha hb
  have b1 := bit_cases p
  have b2 := bit_cases q
  have b3 := bit_cases r
  have b4 := bit_cases p'
  have b5 := bit_cases q'
  have b6 := bit_cases r'
  rw [Bool.eq_iff_iff, decide_eq_true_eq]
  simp only [lessT, keyT]
  by_cases e1 : x = x'
  · subst e1
    rw [if_neg (by simp)]
    by_cases e2 : y = y'
    · subst e2
      rw [if_neg (by simp)]
      by_cases e3 : z = z'
      · subst e3
        rw [if_neg (by simp)]
        by_cases e4 : p = p'
        · subst e4
          rw [if_neg (by simp)]
          by_cases e5 : q = q'
          · subst e5
            rw [if_neg (by simp)]
            by_cases e6 : r = r'
            · subst e6
              rw [if_neg (by simp)]
              simp only [Bool.false_eq_true, false_iff]
              omega
            · have k : bit r ≠ bit r' := fun h => e6 (bit_inj h)
              rw [if_pos e6, decide_eq_true_eq]
              omega
          · have k : bit q ≠ bit q' := fun h => e5 (bit_inj h)
            rw [if_pos e5, decide_eq_true_eq]
            omega
        · have k : bit p ≠ bit p' := fun h => e4 (bit_inj h)
          rw [if_pos e4, decide_eq_true_eq]
          omega
      · rw [if_pos e3, decide_eq_true_eq]
        omega
    · rw [if_pos e2, decide_eq_true_eq]
      omega
  · rw [if_pos e1, decide_eq_true_eq]
    omega

theorem key_inj {a b : Wt} (ha : mayT a) (hb : mayT b) (ht : turnT a = turnT b) (h : keyT a = keyT b) : a = b := by
  obtain ⟨x, y, z, p, q, r, t⟩ := a
  obtain ⟨x', y', z', p', q', r', t'⟩ := b
  simp only [mayT] at ha hb
  simp only [turnT] at ht
  simp only [keyT] at h
  have b1 := bit_cases p; have b2 := bit_cases q; have b3 := bit_cases r
  have b4 := bit_cases p'; have b5 := bit_cases q'; have b6 := bit_cases r'
  have e1 : x = x' := by omega
  have e2 : y = y' := by omega
  have e3 : z = z' := by omega
  have e4 : p = p' := bit_inj (by omega)
  have e5 : q = q' := bit_inj (by omega)
  have e6 : r = r' := bit_inj (by omega)
  subst e1 e2 e3 e4 e5 e6 ht
  rfl

/-- Lists that rise are told by what is in them. -/
def Rises (l : List Wt) : Prop := l.Pairwise fun a b => keyT a < keyT b
theorem rises_ext : ∀ {a b : List Wt}, Rises a → Rises b → (∀ x, x ∈ a ↔ x ∈ b) → a = b
  | [], [], _, _, _ => rfl
  | [], y :: bs, _, _, h => absurd ((h y).2 (by simp)) (by simp)
  | x :: a, [], _, _, h => absurd ((h x).1 (by simp)) (by simp)
  | x :: a, y :: bs, ha, hb, h => by
    have hxa := (List.pairwise_cons.1 ha).1
    have hyb := (List.pairwise_cons.1 hb).1
    have e : x = y := by
      rcases List.mem_cons.1 ((h x).1 (by simp)) with e | hx
      · exact e
      · rcases List.mem_cons.1 ((h y).2 (by simp)) with e | hy
        · exact e.symm
        · have := hxa y hy
          have := hyb x hx
          omega
    subst e
    congr 1
    refine rises_ext (List.pairwise_cons.1 ha).2 (List.pairwise_cons.1 hb).2 fun z => ?_
    constructor
    · intro hz
      rcases List.mem_cons.1 ((h z).1 (by simp [hz])) with e | hz'
      · have := hxa z hz
        rw [e] at this; omega
      · exact hz'
    · intro hz
      rcases List.mem_cons.1 ((h z).2 (by simp [hz])) with e | hz'
      · have := hyb z hz
        rw [e] at this; omega
      · exact hz'
theorem rises_nodup {l : List Wt} (h : Rises l) : l.Nodup := h.imp fun hab e => by rw [e] at hab; omega

/-- One more is put in at its place. -/
def insT (w : Wt) : List Wt → List Wt
  | [] => [w]
  | x :: l => if keyT w < keyT x then w :: x :: l else x :: insT w l
theorem ins_mem {w x : Wt} : ∀ {l : List Wt}, x ∈ insT w l ↔ x = w ∨ x ∈ l
  | [] => by simp [insT]
  | y :: l => by
    unfold insT
    split
    · simp
    · rw [List.mem_cons, ins_mem, List.mem_cons]
      constructor
      · rintro (h | h | h) <;> simp [h]
      · rintro (h | h | h) <;> simp [h]
theorem ins_rises {w : Wt} : ∀ {l : List Wt}, Rises l → (∀ x ∈ l, keyT x ≠ keyT w) → Rises (insT w l)
  | [], _, _ => by simp [insT, Rises]
  | y :: l, h, hn => by
    have hy := (List.pairwise_cons.1 h).1
    unfold insT
    split
    · rename_i hlt
      refine List.pairwise_cons.2 ⟨fun z hz => ?_, h⟩
      rcases List.mem_cons.1 hz with e | hz
      · rw [e]; exact hlt
      · have := hy z hz; omega
    · rename_i hge
      refine List.pairwise_cons.2 ⟨fun z hz => ?_, ins_rises (List.pairwise_cons.1 h).2 (fun x hx => hn x (by simp [hx]))⟩
      rcases ins_mem.1 hz with e | hz
      · have := hn y (by simp)
        rw [e]; omega
      · exact hy z hz
def putT (l : List Wt) (w : Wt) : List Wt := if w ∈ l then l else insT w l
theorem put_mem {l : List Wt} {w x : Wt} : x ∈ putT l w ↔ x = w ∨ x ∈ l := by
  unfold putT
  split
  · rename_i h
    constructor
    · exact .inr
    · rintro (e | hx)
      · rw [e]; exact h
      · exact hx
  · exact ins_mem
theorem put_rises {l : List Wt} {w : Wt} (h : Rises l) (hw : mayT w) (hl : ∀ x ∈ l, mayT x ∧ turnT x = turnT w) : Rises (putT l w) := by
  unfold putT
  split
  · exact h
  · rename_i hn
    refine ins_rises h fun x hx e => hn ?_
    have := key_inj (hl x hx).1 hw (hl x hx).2 e
    rw [← this]; exact hx

/-- The orders of the axes. -/
def s01 : Wt → Wt | (x, y, z, p, q, r, t) => (y, x, z, q, p, r, t)
def s02 : Wt → Wt | (x, y, z, p, q, r, t) => (z, y, x, r, q, p, t)
def s12 : Wt → Wt | (x, y, z, p, q, r, t) => (x, z, y, p, r, q, t)
def others (w : Wt) : List Wt := [s01 w, s02 w, s12 w, s12 (s01 w), s02 (s01 w)]
def six (w : Wt) : List Wt := w :: others w
def turnsT (w : Wt) : List Wt := if turnT w then (others w).foldl putT [w] else [w]

theorem six_may {w x : Wt} (hw : mayT w) (hx : x ∈ six w) : mayT x ∧ turnT x = turnT w := by
  obtain ⟨a, b, c, p, q, r, t⟩ := w
  simp only [mayT] at hw
  simp only [six, others, s01, s02, s12, List.mem_cons, List.not_mem_nil, or_false] at hx
  rcases hx with rfl | rfl | rfl | rfl | rfl | rfl <;> simp only [mayT, turnT, and_true] <;> omega
theorem fold_mem {x : Wt} : ∀ (os l : List Wt), x ∈ os.foldl putT l ↔ x ∈ os ∨ x ∈ l
  | [], l => by simp
  | o :: os, l => by
    rw [List.foldl_cons, fold_mem os, put_mem, List.mem_cons]
    constructor
    · rintro (h | h | h) <;> simp [h]
    · rintro ((h | h) | h) <;> simp [h]
theorem fold_rises {t : Bool} : ∀ (os l : List Wt), (∀ o ∈ os, mayT o ∧ turnT o = t) → (∀ x ∈ l, mayT x ∧ turnT x = t) → Rises l → Rises (os.foldl putT l)
  | [], l, _, _, h => h
  | o :: os, l, ho, hl, h => by
    have h1 := ho o (by simp)
    refine fold_rises os _ (fun x hx => ho x (by simp [hx])) (fun x hx => ?_) (put_rises h h1.1 fun x hx => ⟨(hl x hx).1, (hl x hx).2.trans h1.2.symm⟩)
    rcases put_mem.1 hx with e | hx
    · rw [e]; exact h1
    · exact hl x hx
theorem turns_mem {w x : Wt} (ht : turnT w = true) : x ∈ turnsT w ↔ x ∈ six w := by
  unfold turnsT six
  simp only [if_pos ht, fold_mem, List.mem_cons, List.not_mem_nil, or_false]
  exact Or.comm
theorem turns_rises {w : Wt} (hw : mayT w) : Rises (turnsT w) := by
  unfold turnsT
  split
  · refine fold_rises (t := turnT w) _ _ (fun o ho => six_may hw (by simp [six, ho])) (fun x hx => ?_) (by simp [Rises])
    rw [List.mem_singleton.1 hx]; exact ⟨hw, rfl⟩
  · simp [Rises]

/-- Each of them has the same. -/
theorem six_same {w x : Wt} (hx : x ∈ six w) (y : Wt) : y ∈ six x ↔ y ∈ six w := by
  obtain ⟨a, b, c, p, q, r, t⟩ := w
  simp only [six, others, s01, s02, s12, List.mem_cons, List.not_mem_nil, or_false] at hx ⊢
  rcases hx with rfl | rfl | rfl | rfl | rfl | rfl <;> simp only [] <;> grind
theorem turns_same {w x : Wt} (hw : mayT w) (ht : turnT w = true) (hx : x ∈ turnsT w) : turnsT x = turnsT w := by
  have h6 := (turns_mem ht).1 hx
  obtain ⟨hmx, htx⟩ := six_may hw h6
  refine rises_ext (turns_rises hmx) (turns_rises hw) fun y => ?_
  rw [turns_mem (htx.trans ht), turns_mem ht]
  exact six_same h6 y
/-- As many midplanes, as many tori. -/
def prodT : Wt → Int | (x, y, z, _) => x * y * z
def toriT : Wt → Int | (_, _, _, p, q, r, _) => bit p + bit q + bit r
theorem six_prod {w x : Wt} (hx : x ∈ six w) : prodT x = prodT w ∧ toriT x = toriT w := by
  obtain ⟨a, b, c, p, q, r, t⟩ := w
  simp only [six, others, s01, s02, s12, List.mem_cons, List.not_mem_nil, or_false] at hx
  rcases hx with rfl | rfl | rfl | rfl | rfl | rfl <;> exact ⟨by first | rfl | (simp only [prodT]; ac_rfl), by simp only [toriT]; try omega⟩

theorem len_le : ∀ (a b : List Wt), a.Nodup → (∀ x ∈ a, x ∈ b) → a.length ≤ b.length
  | [], b, _, _ => Nat.zero_le _
  | x :: a, b, hn, hs => by
    have hx := hs x (by simp)
    have ih := len_le a (b.erase x) (List.nodup_cons.1 hn).2 fun y hy => by
      have hne : y ≠ x := fun e => (List.nodup_cons.1 hn).1 (e ▸ hy)
      exact (List.mem_erase_of_ne hne).2 (hs y (by simp [hy]))
    rw [List.length_erase_of_mem hx] at ih
    have : 0 < b.length := List.length_pos_of_mem hx
    simp only [List.length_cons]
    omega
theorem len_eq {a b : List Wt} (ha : a.Nodup) (hb : b.Nodup) (h : ∀ x, x ∈ a ↔ x ∈ b) : a.length = b.length :=
  Nat.le_antisymm (len_le a b ha fun x hx => (h x).1 hx) (len_le b a hb fun x hx => (h x).2 hx)
/-- There are 1, 3 or 6. -/
theorem turns_count {w : Wt} (hw : mayT w) (ht : turnT w = true) : (turnsT w).length = 1 ∨ (turnsT w).length = 3 ∨ (turnsT w).length = 6 := by
  have hn := rises_nodup (turns_rises hw)
  have hm := fun x => turns_mem (w := w) (x := x) ht
  obtain ⟨a, b, c, p, q, r, t⟩ := w
  by_cases e01 : a = b ∧ p = q
  · by_cases e12 : b = c ∧ q = r
    · left
      rw [len_eq hn (b := [(a, b, c, p, q, r, t)]) (by simp) fun x => by
        rw [hm x]
        obtain ⟨rfl, rfl⟩ := e01
        obtain ⟨rfl, rfl⟩ := e12
        simp [six, others, s01, s02, s12]]
      rfl
    · right; left
      rw [len_eq hn (b := [(a, b, c, p, q, r, t), (c, b, a, r, q, p, t), (a, c, b, p, r, q, t)]) (by
        obtain ⟨rfl, rfl⟩ := e01
        simp only [List.nodup_cons, List.mem_cons, List.not_mem_nil, or_false, not_or, Prod.mk.injEq, List.nodup_nil, not_false_eq_true, and_true]
        grind) fun x => by
        rw [hm x]
        obtain ⟨rfl, rfl⟩ := e01
        simp only [six, others, s01, s02, s12, List.mem_cons, List.not_mem_nil, or_false]
        grind]
      rfl
  · by_cases e12 : b = c ∧ q = r
    · right; left
      rw [len_eq hn (b := [(a, b, c, p, q, r, t), (b, a, c, q, p, r, t), (c, b, a, r, q, p, t)]) (by
        obtain ⟨rfl, rfl⟩ := e12
        simp only [List.nodup_cons, List.mem_cons, List.not_mem_nil, or_false, not_or, Prod.mk.injEq, List.nodup_nil, not_false_eq_true, and_true]
        grind) fun x => by
        rw [hm x]
        obtain ⟨rfl, rfl⟩ := e12
        simp only [six, others, s01, s02, s12, List.mem_cons, List.not_mem_nil, or_false]
        grind]
      rfl
    · by_cases e02 : a = c ∧ p = r
      · right; left
        rw [len_eq hn (b := [(a, b, c, p, q, r, t), (b, a, c, q, p, r, t), (a, c, b, p, r, q, t)]) (by
          obtain ⟨rfl, rfl⟩ := e02
          simp only [List.nodup_cons, List.mem_cons, List.not_mem_nil, or_false, not_or, Prod.mk.injEq, List.nodup_nil, not_false_eq_true, and_true]
          grind) fun x => by
          rw [hm x]
          obtain ⟨rfl, rfl⟩ := e02
          simp only [six, others, s01, s02, s12, List.mem_cons, List.not_mem_nil, or_false]
          grind]
        rfl
      · right; right
        rw [len_eq hn (b := six (a, b, c, p, q, r, t)) (by
          clear hm hn hw ht
          simp only [six, others, s01, s02, s12, List.nodup_cons, List.mem_cons, List.not_mem_nil, or_false, not_or, Prod.mk.injEq, List.nodup_nil, not_false_eq_true, and_true]
          refine ⟨⟨?_, ?_, ?_, ?_, ?_⟩, ⟨?_, ?_, ?_, ?_⟩, ⟨?_, ?_, ?_⟩, ⟨?_, ?_⟩, ?_⟩ <;> grind) fun x => hm x]
        rfl

/-- What fits dimensions. -/
abbrev D3 := Int × Int × Int
def withinT : D3 → Wt → Bool | (a, b, c), (x, y, z, _) => decide (x ≤ a) && decide (y ≤ b) && decide (z ≤ c)
def fitsT (d : D3) (w : Wt) : Bool := (turnsT w).any (withinT d)
theorem fits_iff {d : D3} {w : Wt} : fitsT d w = true ↔ ∃ x ∈ turnsT w, withinT d x = true := List.any_eq_true
theorem within_more {a b c a' b' c' : Int} {w : Wt} (h0 : a ≤ a') (h1 : b ≤ b') (h2 : c ≤ c') (h : withinT (a, b, c) w = true) : withinT (a', b', c') w = true := by
  obtain ⟨x, y, z, p, q, r, t⟩ := w
  simp only [withinT, Bool.and_eq_true, decide_eq_true_eq] at h ⊢
  omega
theorem fits_more {a b c a' b' c' : Int} {w : Wt} (h0 : a ≤ a') (h1 : b ≤ b') (h2 : c ≤ c') (h : fitsT (a, b, c) w = true) : fitsT (a', b', c') w = true := by
  obtain ⟨x, hx, hw⟩ := fits_iff.1 h
  exact fits_iff.2 ⟨x, hx, within_more h0 h1 h2 hw⟩
def freeT : Wt → Wt | (x, y, z, p, q, r, _) => (x, y, z, p, q, r, true)
theorem within_free (d : D3) (w : Wt) : withinT d (freeT w) = withinT d w := by
  obtain ⟨x, y, z, p, q, r, t⟩ := w
  obtain ⟨a, b, c⟩ := d
  rfl
/-- What fits unturned fits turned. -/
theorem fits_free {d : D3} {w : Wt} (h : fitsT d w = true) : fitsT d (freeT w) = true := by
  cases ht : turnT w
  · obtain ⟨x, hx, hw⟩ := fits_iff.1 h
    rw [turnsT, if_neg (by simp [ht]), List.mem_singleton] at hx
    subst hx
    refine fits_iff.2 ⟨freeT x, (turns_mem (by obtain ⟨x, y, z, p, q, r, t⟩ := x; rfl)).2 (by simp [six]), ?_⟩
    rw [within_free]; exact hw
  · have e : freeT w = w := by
      obtain ⟨x, y, z, p, q, r, t⟩ := w
      simp only [turnT] at ht
      subst ht
      rfl
    rw [e]; exact h
theorem six_swaps {w x : Wt} (hx : x ∈ six w) : s01 x ∈ six w ∧ s02 x ∈ six w ∧ s12 x ∈ six w := by
  obtain ⟨a, b, c, p, q, r, t⟩ := w
  simp only [six, others, s01, s02, s12, List.mem_cons, List.not_mem_nil, or_false] at hx ⊢
  rcases hx with rfl | rfl | rfl | rfl | rfl | rfl <;> simp
theorem fits_swap {d d' : D3} {s : Wt → Wt} {w : Wt} (ht : turnT w = true) (hs : ∀ x, x ∈ six w → s x ∈ six w) (hw : ∀ x, withinT d x = true → withinT d' (s x) = true) (h : fitsT d w = true) : fitsT d' w = true := by
  obtain ⟨x, hx, hx2⟩ := fits_iff.1 h
  exact fits_iff.2 ⟨s x, (turns_mem ht).2 (hs x ((turns_mem ht).1 hx)), hw x hx2⟩
theorem within_01 (a b c : Int) (w : Wt) : withinT (b, a, c) (s01 w) = withinT (a, b, c) w := by
  obtain ⟨x, y, z, p, q, r, t⟩ := w
  show (decide (y ≤ b) && decide (x ≤ a) && decide (z ≤ c)) = (decide (x ≤ a) && decide (y ≤ b) && decide (z ≤ c))
  cases decide (x ≤ a) <;> cases decide (y ≤ b) <;> rfl
theorem within_02 (a b c : Int) (w : Wt) : withinT (c, b, a) (s02 w) = withinT (a, b, c) w := by
  obtain ⟨x, y, z, p, q, r, t⟩ := w
  show (decide (z ≤ c) && decide (y ≤ b) && decide (x ≤ a)) = (decide (x ≤ a) && decide (y ≤ b) && decide (z ≤ c))
  cases decide (x ≤ a) <;> cases decide (y ≤ b) <;> cases decide (z ≤ c) <;> rfl
theorem within_12 (a b c : Int) (w : Wt) : withinT (a, c, b) (s12 w) = withinT (a, b, c) w := by
  obtain ⟨x, y, z, p, q, r, t⟩ := w
  show (decide (x ≤ a) && decide (z ≤ c) && decide (y ≤ b)) = (decide (x ≤ a) && decide (y ≤ b) && decide (z ≤ c))
  cases decide (x ≤ a) <;> cases decide (y ≤ b) <;> cases decide (z ≤ c) <;> rfl
/-- What may be turned fits just if it does in dimensions that are turned. -/
theorem fits_01 {a b c : Int} {w : Wt} (ht : turnT w = true) : fitsT (b, a, c) w = fitsT (a, b, c) w := by
  rw [Bool.eq_iff_iff]
  exact ⟨fits_swap (s := s01) ht (fun x hx => (six_swaps hx).1) fun x h => (within_01 b a c x).trans h, fits_swap (s := s01) ht (fun x hx => (six_swaps hx).1) fun x h => (within_01 a b c x).trans h⟩
theorem fits_02 {a b c : Int} {w : Wt} (ht : turnT w = true) : fitsT (c, b, a) w = fitsT (a, b, c) w := by
  rw [Bool.eq_iff_iff]
  exact ⟨fits_swap (s := s02) ht (fun x hx => (six_swaps hx).2.1) fun x h => (within_02 c b a x).trans h, fits_swap (s := s02) ht (fun x hx => (six_swaps hx).2.1) fun x h => (within_02 a b c x).trans h⟩
theorem fits_12 {a b c : Int} {w : Wt} (ht : turnT w = true) : fitsT (a, c, b) w = fitsT (a, b, c) w := by
  rw [Bool.eq_iff_iff]
  exact ⟨fits_swap (s := s12) ht (fun x hx => (six_swaps hx).2.2) fun x h => (within_12 a c b x).trans h, fits_swap (s := s12) ht (fun x hx => (six_swaps hx).2.2) fun x h => (within_12 a b c x).trans h⟩

end Go.Proofs.YtanhhlekbdhfmaaDoor
