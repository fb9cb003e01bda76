/-
  Rotations of what is asked for, as plain arithmetic: the six orders of the axes, each once, rising; how many there are; that each has the same.
-/
import Derived.Test.YtlahfffgmfjpaaaGreatDoorPart1
import Derived.Test.YtlahfffgmfjpaaaGreatDoorPart6
import Derived.Test.YtlahfffgmfjpaaaGreatDoorPart11
namespace Go.Proofs.YtlahfffgmfjpaaaGreatDoor

/-- What is asked for: three lengths, three tori, whether it may be turned. -/
abbrev Wt := Int × Int × Int × Bool × Bool × Bool × Bool
def bit (b : Bool) : Int := if b then 1 else 0
theorem bit_cases (b : Bool) : bit b = 0 ∨ bit b = 1 := by cases b <;> simp [bit]
theorem bit_inj {a b : Bool} (h : bit a = bit b) : a = b := by cases a <;> cases b <;> simp [bit] at h ⊢
def mayT : Wt → Prop | (x, y, z, _) => 1 ≤ x ∧ x ≤ 16 ∧ 1 ≤ y ∧ y ≤ 16 ∧ 1 ≤ z ∧ z ≤ 16
/-- Where one stands in the order. -/
def keyT : Wt → Int | (x, y, z, p, q, r, _) => ((((x * 32 + y) * 32 + z) * 2 + bit p) * 2 + bit q) * 2 + bit r
def turnT : Wt → Bool | (_, _, _, _, _, _, t) => t
/-- One is ahead of another one, as the document says it. -/
def lessT : Wt → Wt → Bool
  | (x, y, z, p, q, r, _), (x', y', z', p', q', r', _) =>
    if x ≠ x' then decide (x < x') else if y ≠ y' then decide (y < y') else if z ≠ z' then decide (z < z') else
    if p ≠ p' then decide (bit p < bit p') else if q ≠ q' then decide (bit q < bit q') else if r ≠ r' then decide (bit r < bit r') else false

theorem less_key {a b : Wt} (ha : mayT a) (hb : mayT b) : lessT a b = decide (keyT a < keyT b) := by
  obtain ⟨x, y, z, p, q, r, t⟩ := a
  obtain ⟨x', y', z', p', q', r', t'⟩ := b
  simp only [mayT] at ha hb
  have b1 := bit_cases p
  have b2 := bit_cases q
  have b3 := bit_cases r
  have b4 := bit_cases p'
  have b5 := bit_cases q'
  have b6 := bit_cases r'
  rw [Bool.eq_iff_iff, decide_eq_true_eq]
  simp only [lessT, keyT]
  by_cases e1 : x = x'
  · subst e1
    rw [if_neg (by simp)]
    by_cases e2 : y = y'
    · subst e2
      rw [if_neg (by simp)]
      by_cases e3 : z = z'
      · subst e3
        rw [if_neg (by simp)]
        by_cases e4 : p = p'
        · subst e4
          rw [if_neg (by simp)]
          by_cases e5 : q = q'
          · subst e5
            rw [if_neg (by simp)]
            by_cases e6 : r = r'
            · subst e6
              rw [if_neg (by simp)]
              simp only [Bool.false_eq_true, false_iff]
              omega
            · have k : bit r ≠ bit r' := fun h => e6 (bit_inj h)
              rw [if_pos e6, decide_eq_true_eq]
              omega
          · have k : bit q ≠ bit q' := fun h => e5 (bit_inj h)
            rw [if_pos e5, decide_eq_true_eq]
            omega
        · have k : bit p ≠ bit p' := fun h => e4 (bit_inj h)
          rw [if_pos e4, decide_eq_true_eq]
          omega
      · rw [if_pos e3, decide_eq_true_eq]
        omega
    · rw [if_pos e2, decide_eq_true_eq]
      omega
  · rw [if_pos e1, decide_eq_true_eq]
    omega

theorem key_inj {a b : Wt} (ha : mayT a) (hb : mayT b) (ht : turnT a = turnT b) (h : keyT a = keyT b) : a = b := by
  obtain ⟨x, y, z, p, q, r, t⟩ := a
  obtain ⟨x', y', z', p', q', r', t'⟩ := b
  simp only [mayT] at ha hb
  simp only [turnT] at ht
  simp only [keyT] at h
  have b1 := bit_cases p; have b2 := bit_cases q; have b3 := bit_cases r
  have b4 := bit_cases p'; have b5 := bit_cases q'; have b6 := bit_cases r'
  have e1 : x = x' := by omega
  have e2 : y = y' := by omega
  have e3 : z = z' := by omega
  have e4 : p = p' := bit_inj (by omega)
  have e5 : q = q' := bit_inj (by omega)
  have e6 : r = r' := bit_inj (by omega)
  subst e1 e2 e3 e4 e5 e6 ht
  rfl

/-- Lists that rise are told by what is in them. -/
def Rises (l : List Wt) : Prop := l.Pairwise fun a b => keyT a < keyT b
theorem rises_ext : ∀ {a b : List Wt}, Rises a → Rises b → (∀ x, x ∈ a ↔ x ∈ b) → a = b
  | [], [], _, _, _ => rfl
  | [], y :: bs, _, _, h => absurd ((h y).2 (by simp)) (by simp)
  | x :: a, [], _, _, h => absurd ((h x).1 (by simp)) (by simp)
  | x :: a, y :: bs, ha, hb, h => by
    have hxa := (List.pairwise_cons.1 ha).1
    have hyb := (List.pairwise_cons.1 hb).1
    have e : x = y := by
      rcases List.mem_cons.1 ((h x).1 (by simp)) with e | hx
      · exact e
      · rcases List.mem_cons.1 ((h y).2 (by simp)) with e | hy
        · exact e.symm
        · have := hxa y hy
          have := hyb x hx
          omega
    subst e
    congr 1
    refine rises_ext (List.pairwise_cons.1 ha).2 (List.pairwise_cons.1 hb).2 fun z => ?_
    constructor
    · intro hz
      rcases List.mem_cons.1 ((h z).1 (by simp [hz])) with e | hz'
      · have := hxa z hz
        rw [e] at this; omega
      · exact hz'
    · intro hz
      rcases List.mem_cons.1 ((h z).2 (by simp [hz])) with e | hz'
      · have := hyb z hz
        rw [e] at this; omega
      · exact hz'
theorem rises_nodup {l : List Wt} (h : Rises l) : l.Nodup := h.imp fun hab e => by rw [e] at hab; omega

/-- One more is put in at its place. -/
def insT (w : Wt) : List Wt → List Wt
  | [] => [w]
  | x :: l => if keyT w < keyT x then w :: x :: l else x :: insT w l
theorem ins_mem {w x : Wt} : ∀ {l : List Wt}, x ∈ insT w l ↔ x = w ∨ x ∈ l
  | [] => by simp [insT]
  | y :: l => by
    unfold insT
    split
    · simp
    · rw [List.mem_cons, ins_mem, List.mem_cons]
      constructor
      · rintro (h | h | h) <;> simp [h]
      · rintro (h | h | h) <;> simp [h]
theorem ins_rises {w : Wt} : ∀ {l : List Wt}, Rises l → (∀ x ∈ l, keyT x ≠ keyT w) → Rises (insT w l)
  | [], _, _ => by simp [insT, Rises]
  | y :: l, h, hn => by
    have hy := (List.pairwise_cons.1 h).1
    unfold insT
    split
    · rename_i hlt
      refine List.pairwise_cons.2 ⟨fun z hz => ?_, h⟩
      rcases List.mem_cons.1 hz with e | hz
      · rw [e]; exact hlt
      · have := hy z hz; omega
    · rename_i hge
      refine List.pairwise_cons.2 ⟨fun z hz => ?_, ins_rises (List.pairwise_cons.1 h).2 (fun x hx => hn x (by simp [hx]))⟩
      rcases ins_mem.1 hz with e | hz
      · have := hn y (by simp)
        rw [e]; omega
      · exact hy z hz
def putT (l : List Wt) (w : Wt) : List Wt := if w ∈ l then l else insT w l
theorem put_mem {l : List Wt} {w x : Wt} : x ∈ putT l w ↔ x = w ∨ x ∈ l := by
  unfold putT
  split
  · rename_i h
    constructor
    · exact .inr
    · rintro (e | hx)
      · rw [e]; exact h
      · exact hx
  · exact ins_mem
theorem put_rises {l : List Wt} {w : Wt} (h : Rises l) (hw : mayT w) (hl : ∀ x ∈ l, mayT x ∧ turnT x = turnT w) : Rises (putT l w) := by
  unfold putT
  split
  · exact h
  · rename_i hn
    refine ins_rises h fun x hx e => hn ?_
    have := key_inj (hl x hx).1 hw (hl x hx).2 e
    rw [← this]; exact hx

/-- The orders of the axes. -/
def s01 : Wt → Wt | (x, y, z, p, q, r, t) => (y, x, z, q, p, r, t)
def s02 : Wt → Wt | (x, y, z, p, q, r, t) => (z, y, x, r, q, p, t)
def s12 : Wt → Wt | (x, y, z, p, q, r, t) => (x, z, y, p, r, q, t)
def others (w : Wt) : List Wt := [s01 w, s02 w, s12 w, s12 (s01 w), s02 (s01 w)]
def six (w : Wt) : List Wt := w :: others w
def turnsT (w : Wt) : List Wt := if turnT w then (others w).foldl putT [w] else [w]

theorem six_may {w x : Wt} (hw : mayT w) (hx : x ∈ six w) : mayT x ∧ turnT x = turnT w := by
  obtain ⟨a, b, c, p, q, r, t⟩ := w
  simp only [mayT] at hw
  simp only [six, others, s01, s02, s12, List.mem_cons, List.not_mem_nil, or_false] at hx
  rcases hx with rfl | rfl | rfl | rfl | rfl | rfl <;> simp only [mayT, turnT, and_true] <;> omega
theorem fold_mem {x : Wt} : ∀ (os l : List Wt), x ∈ os.foldl putT l ↔ x ∈ os ∨ x ∈ l
  | [], l => by simp
  | o :: os, l => by
    rw [List.foldl_cons, fold_mem os, put_mem, List.mem_cons]
    constructor
    · rintro (h | h | h) <;> simp [h]
    · rintro ((h | h) | h) <;> simp [h]
theorem fold_rises {t : Bool} : ∀ (os l : List Wt), (∀ o ∈ os, mayT o ∧ turnT o = t) → (∀ x ∈ l, mayT x ∧ turnT x = t) → Rises l → Rises (os.foldl putT l)
  | [], l, _, _, h => h
  | o :: os, l, ho, hl, h => by
    have h1 := ho o (by simp)
    refine fold_rises os _ (fun x hx => ho x (by simp [hx])) (fun x hx => ?_) (put_rises h h1.1 fun x hx => ⟨(hl x hx).1, (hl x hx).2.trans h1.2.symm⟩)
    rcases put_mem.1 hx with e | hx
    · rw [e]; exact h1
    · exact hl x hx
theorem turns_mem {w x : Wt} (ht : turnT w = true) : x ∈ turnsT w ↔ x ∈ six w := by
  unfold turnsT six
  simp only [if_pos ht, fold_mem, List.mem_cons, List.not_mem_nil, or_false]
  exact Or.comm
theorem turns_rises {w : Wt} (hw : mayT w) : Rises (turnsT w) := by
  unfold turnsT
  split
  · refine fold_rises (t := turnT w) _ _ (fun o ho => six_may hw (by simp [six, ho])) (fun x hx => ?_) (by simp [Rises])
    rw [List.mem_singleton.1 hx]; exact ⟨hw, rfl⟩
  · simp [Rises]

/-- As many midplanes, as many tori. -/
def prodT : Wt → Int | (x, y, z, _) => x * y * z
def toriT : Wt → Int | (_, _, _, p, q, r, _) => bit p + bit q + bit r
theorem len_le : ∀ (a b : List Wt), a.Nodup → (∀ x ∈ a, x ∈ b) → a.length ≤ b.length
  | [], b, _, _ => Nat.zero_le _
  | x :: a, b, hn, hs => by
    have hx := hs x (by simp)
    have ih := len_le a (b.erase x) (List.nodup_cons.1 hn).2 fun y hy => by
      have hne : y ≠ x := fun e => (List.nodup_cons.1 hn).1 (e ▸ hy)
      exact (List.mem_erase_of_ne hne).2 (hs y (by simp [hy]))
    rw [List.length_erase_of_mem hx] at ih
    have : 0 < b.length := List.length_pos_of_mem hx
    simp only [List.length_cons]
    omega
theorem len_eq {a b : List Wt} (ha : a.Nodup) (hb : b.Nodup) (h : ∀ x, x ∈ a ↔ x ∈ b) : a.length = b.length :=
  Nat.le_antisymm (len_le a b ha fun x hx => (h x).1 hx) (len_le b a hb fun x hx => (h x).2 hx)
/-- There are 1, 3 or 6. -/
theorem turns_count {w : Wt} (hw : mayT w) (ht : turnT w = true) : (turnsT w).length = 1 ∨ (turnsT w).length = 3 ∨ (turnsT w).length = 6 := by
  have hn := rises_nodup (turns_rises hw)
  have hm := fun x => turns_mem (w := w) (x := x) ht
  obtain ⟨a, b, c, p, q, r, t⟩ := w
  by_cases e01 : a = b ∧ p = q
  · by_cases e12 : b = c ∧ q = r
    · left
      rw [len_eq hn (b := [(a, b, c, p, q, r, t)]) (by simp) fun x => by
        rw [hm x]
        obtain ⟨rfl, rfl⟩ := e01
        obtain ⟨rfl, rfl⟩ := e12
        simp [six, others, s01, s02, s12]]
      rfl
    · right; left
      rw [len_eq hn (b := [(a, b, c, p, q, r, t), (c, b, a, r, q, p, t), (a, c, b, p, r, q, t)]) (by
        obtain ⟨rfl, rfl⟩ := e01
        simp only [List.nodup_cons, List.mem_cons, List.not_mem_nil, or_false, not_or, Prod.mk.injEq, List.nodup_nil, not_false_eq_true, and_true]
        grind) fun x => by
        rw [hm x]
        obtain ⟨rfl, rfl⟩ := e01
        simp only [six, others, s01, s02, s12, List.mem_cons, List.not_mem_nil, or_false]
        grind]
      rfl
  · by_cases e12 : b = c ∧ q = r
    · right; left
      rw [len_eq hn (b := [(a, b, c, p, q, r, t), (b, a, c, q, p, r, t), (c, b, a, r, q, p, t)]) (by
        obtain ⟨rfl, rfl⟩ := e12
        simp only [List.nodup_cons, List.mem_cons, List.not_mem_nil, or_false, not_or, Prod.mk.injEq, List.nodup_nil, not_false_eq_true, and_true]
        grind) fun x => by
        rw [hm x]
        obtain ⟨rfl, rfl⟩ := e12
        simp only [six, others, s01, s02, s12, List.mem_cons, List.not_mem_nil, or_false]
        grind]
      rfl
    · by_cases e02 : a = c ∧ p = r
      · right; left
        rw [len_eq hn (b := [(a, b, c, p, q, r, t), (b, a, c, q, p, r, t), (a, c, b, p, r, q, t)]) (by
          obtain ⟨rfl, rfl⟩ := e02
          simp only [List.nodup_cons, List.mem_cons, List.not_mem_nil, or_false, not_or, Prod.mk.injEq, List.nodup_nil, not_false_eq_true, and_true]
          grind) fun x => by
          rw [hm x]
          obtain ⟨rfl, rfl⟩ := e02
          simp only [six, others, s01, s02, s12, List.mem_cons, List.not_mem_nil, or_false]
          grind]
        rfl
      · right; right
        rw [len_eq hn (b := six (a, b, c, p, q, r, t)) (by
          clear hm hn hw ht
          simp only [six, others, s01, s02, s12, List.nodup_cons, List.mem_cons, List.not_mem_nil, or_false, not_or, Prod.mk.injEq, List.nodup_nil, not_false_eq_true, and_true]
          refine ⟨⟨?_, ?_, ?_, ?_, ?_⟩, ⟨?_, ?_, ?_, ?_⟩, ⟨?_, ?_, ?_⟩, ⟨?_, ?_⟩, ?_⟩ <;> grind) fun x => hm x]
        rfl

/-- What fits dimensions. -/
abbrev D3 := Int × Int × Int
def withinT : D3 → Wt → Bool | (a, b, c), (x, y, z, _) => decide (x ≤ a) && decide (y ≤ b) && decide (z ≤ c)
def fitsT (d : D3) (w : Wt) : Bool := (turnsT w).any (withinT d)
def freeT : Wt → Wt | (x, y, z, p, q, r, _) => (x, y, z, p, q, r, true)
end Go.Proofs.YtlahfffgmfjpaaaGreatDoor

/-
  Plain arithmetic of the places of what is asked for (ahead of layer 12): which they are, rising, each once; how many there are; the places of rotations. No program is walked here.
-/
namespace Go.Proofs.YtlahfffgmfjpaaaGreatDoor
open Go Go.RowKit Go.Shelf

/-- A place: its box, its tori. -/
abbrev Pl := Bx × Bool × Bool × Bool
/-- What a place has of a rotation: its lengths; a torus along an axis of more than 1. -/
def kindT : Wt → Wt | (x, y, z, p, q, r, _) => (x, y, z, p && decide (1 < x), q && decide (1 < y), r && decide (1 < z), false)
/-- The place of a kind at a midplane; a place's kind; the midplane at its base. -/
def plT (d0 d1 m : Int) : Wt → Pl | (x, y, z, p, q, r, _) => (⟨cx d0 m, cy d0 d1 m, cz d0 d1 m, x, y, z⟩, p, q, r)
def kdP : Pl → Wt | (b, p, q, r) => (b.a, b.b, b.c, p, q, r, false)
def atP (d0 d1 : Int) (p : Pl) : Int := numD d0 d1 p.1.x p.1.y p.1.z
def mayL (d0 d1 d2 : Int) (p : Pl) : Bool := mayPB d0 d1 d2 p.1 p.2.1 p.2.2.1 p.2.2.2
theorem mayL_iff {d0 d1 d2 : Int} {p : Pl} : mayL d0 d1 d2 p = true ↔ mayP d0 d1 d2 p.1 p.2.1 p.2.2.1 p.2.2.2 := mayPB_iff _ _ _ _ _ _ _
theorem kd_pl (d0 d1 m : Int) (k : Wt) (h : turnT k = false) : kdP (plT d0 d1 m k) = k := by
  obtain ⟨x, y, z, p, q, r, t⟩ := k
  simp only [turnT] at h
  subst h; rfl
theorem kind_turn (u : Wt) : turnT (kindT u) = false := by obtain ⟨x, y, z, p, q, r, t⟩ := u; rfl
theorem kind_may {u : Wt} (h : mayT u) : mayT (kindT u) := by obtain ⟨x, y, z, p, q, r, t⟩ := u; exact h
theorem at_pl {d0 d1 m : Int} (k : Wt) : atP d0 d1 (plT d0 d1 m k) = m := by
  obtain ⟨x, y, z, p, q, r, t⟩ := k
  exact num_of_node
/-- A place that may be is that of its kind at its midplane. -/
theorem pl_at {d0 d1 d2 : Int} (h : mayD d0 d1 d2) {p : Pl} (hp : mayL d0 d1 d2 p = true) : (0 ≤ atP d0 d1 p ∧ atP d0 d1 p < d0 * d1 * d2) ∧ plT d0 d1 (atP d0 d1 p) (kdP p) = p := by
  obtain ⟨⟨b0, b1, b2⟩, _⟩ := mayL_iff.1 hp
  obtain ⟨hm, e0, e1, e2⟩ := node_of_in h (p0 := p.1.x) (p1 := p.1.y) (p2 := p.1.z) ⟨b0.2, b1.2, b2.2⟩
  refine ⟨hm, ?_⟩
  obtain ⟨b, q, r, s⟩ := p
  simp only [plT, kdP, atP]
  rw [e0, e1, e2]

/-- The kinds of some rotations, rising, each once. -/
def kindsT (l : List Wt) : List Wt := l.foldl (fun acc u => putT acc (kindT u)) []
theorem kinds_gen {l : List Wt} : ∀ {acc : List Wt}, (∀ u ∈ l, mayT u) → (∀ x ∈ acc, mayT x ∧ turnT x = false) → Rises acc →
    Rises (l.foldl (fun acc u => putT acc (kindT u)) acc) ∧ (∀ x, x ∈ l.foldl (fun acc u => putT acc (kindT u)) acc ↔ x ∈ acc ∨ ∃ u ∈ l, kindT u = x) := by
  induction l with
  | nil => intro acc _ _ h; exact ⟨h, fun x => by simp⟩
  | cons v l ih =>
    intro acc hl ha hr
    have hv := hl v (by simp)
    obtain ⟨i1, i2⟩ := ih (acc := putT acc (kindT v)) (fun u hu => hl u (by simp [hu])) (fun x hx => by
      rcases put_mem.1 hx with e | hx
      · rw [e]; exact ⟨kind_may hv, kind_turn v⟩
      · exact ha x hx) (put_rises hr (kind_may hv) fun x hx => ⟨(ha x hx).1, (ha x hx).2.trans (kind_turn v).symm⟩)
    refine ⟨i1, fun x => ?_⟩
    rw [List.foldl_cons, i2, put_mem]
    simp only [List.mem_cons, exists_eq_or_imp]
    constructor
    · rintro ((e | h) | h)
      · exact .inr (.inl e.symm)
      · exact .inl h
      · exact .inr (.inr h)
    · rintro (h | e | h)
      · exact .inl (.inr h)
      · exact .inl (.inl e.symm)
      · exact .inr h
theorem kinds_rises {l : List Wt} (h : ∀ u ∈ l, mayT u) : Rises (kindsT l) := (kinds_gen h (fun x hx => by cases hx) (by simp [Rises])).1
theorem kinds_mem {l : List Wt} (h : ∀ u ∈ l, mayT u) {x : Wt} : x ∈ kindsT l ↔ ∃ u ∈ l, kindT u = x := by
  rw [kindsT, (kinds_gen h (fun x hx => by cases hx) (by simp [Rises])).2]
  simp
theorem kinds_may {l : List Wt} (h : ∀ u ∈ l, mayT u) {x : Wt} (hx : x ∈ kindsT l) : mayT x ∧ turnT x = false := by
  obtain ⟨u, hu, rfl⟩ := (kinds_mem h).1 hx
  exact ⟨kind_may (h u hu), kind_turn u⟩

/-- The kinds that may be at a midplane; the places, midplane by midplane. -/
def hereT (d0 d1 d2 : Int) (l : List Wt) (m : Nat) : List Wt := (kindsT l).filter fun k => mayL d0 d1 d2 (plT d0 d1 m k)
def everyT (d0 d1 d2 : Int) (l : List Wt) : List Pl := (List.range (d0 * d1 * d2).toNat).flatMap fun m => (hereT d0 d1 d2 l m).map (plT d0 d1 m)
theorem every_mem {d0 d1 d2 : Int} (h : mayD d0 d1 d2) {l : List Wt} (hl : ∀ u ∈ l, mayT u) {p : Pl} : p ∈ everyT d0 d1 d2 l ↔ mayL d0 d1 d2 p = true ∧ ∃ u ∈ l, kindT u = kdP p := by
  unfold everyT hereT
  simp only [List.mem_flatMap, List.mem_map, List.mem_filter, List.mem_range]
  constructor
  · rintro ⟨m, hm, k, ⟨hk, hmay⟩, rfl⟩
    refine ⟨hmay, ?_⟩
    rw [kd_pl _ _ _ _ (kinds_may hl hk).2]
    exact (kinds_mem hl).1 hk
  · rintro ⟨hp, u, hu, he⟩
    obtain ⟨hm, e⟩ := pl_at h hp
    refine ⟨(atP d0 d1 p).toNat, by omega, kdP p, ⟨(kinds_mem hl).2 ⟨u, hu, he⟩, ?_⟩, ?_⟩
    · rw [Int.toNat_of_nonneg hm.1, e]; exact hp
    · rw [Int.toNat_of_nonneg hm.1]; exact e

/-- Where a place stands in the order: by its midplane, then by its kind. -/
def keyP (d0 d1 : Int) (p : Pl) : Int := atP d0 d1 p * 262144 + keyT (kdP p)
theorem key_bd {k : Wt} (h : mayT k) : 0 ≤ keyT k ∧ keyT k < 262144 := by
  obtain ⟨x, y, z, p, q, r, t⟩ := k
  simp only [mayT] at h
  have b1 := bit_cases p
  have b2 := bit_cases q
  have b3 := bit_cases r
  simp only [keyT]
  omega
/-- Lists that rise by a key are told by what is in them. -/
def upF {α : Type} (f : α → Int) (l : List α) : Prop := l.Pairwise fun a b => f a < f b
theorem upF_ext {α : Type} {f : α → Int} : ∀ {a b : List α}, upF f a → upF f b → (∀ x, x ∈ a ↔ x ∈ b) → a = b
  | [], [], _, _, _ => rfl
  | [], y :: bs, _, _, h => absurd ((h y).2 (by simp)) (by simp)
  | x :: a, [], _, _, h => absurd ((h x).1 (by simp)) (by simp)
  | x :: a, y :: bs, ha, hb, h => by
    have hxa := (List.pairwise_cons.1 ha).1
    have hyb := (List.pairwise_cons.1 hb).1
    have e : x = y := by
      rcases List.mem_cons.1 ((h x).1 (by simp)) with e | hx
      · exact e
      · rcases List.mem_cons.1 ((h y).2 (by simp)) with e | hy
        · exact e.symm
        · have := hxa y hy
          have := hyb x hx
          omega
    subst e
    congr 1
    refine upF_ext (List.pairwise_cons.1 ha).2 (List.pairwise_cons.1 hb).2 fun z => ?_
    constructor
    · intro hz
      rcases List.mem_cons.1 ((h z).1 (by simp [hz])) with e | hz'
      · have := hxa z hz
        rw [e] at this; omega
      · exact hz'
    · intro hz
      rcases List.mem_cons.1 ((h z).2 (by simp [hz])) with e | hz'
      · have := hyb z hz
        rw [e] at this; omega
      · exact hz'
theorem upF_nodup {α : Type} {f : α → Int} {l : List α} (h : upF f l) : l.Nodup := h.imp fun hab e => by rw [e] at hab; omega
theorem keyP_pl {d0 d1 m : Int} {k : Wt} (ht : turnT k = false) : keyP d0 d1 (plT d0 d1 m k) = m * 262144 + keyT k := by rw [keyP, at_pl, kd_pl _ _ _ _ ht]
theorem every_up {d0 d1 d2 : Int} {l : List Wt} (hl : ∀ u ∈ l, mayT u) : upF (keyP d0 d1) (everyT d0 d1 d2 l) := by
  unfold upF everyT
  rw [List.pairwise_flatMap]
  refine ⟨fun m _ => ?_, ?_⟩
  · rw [List.pairwise_map]
    have hr : Rises (hereT d0 d1 d2 l m) := (kinds_rises hl).sublist List.filter_sublist
    refine hr.imp_of_mem fun {a b} ha hb hab => ?_
    rw [keyP_pl (kinds_may hl (List.mem_filter.1 ha).1).2, keyP_pl (kinds_may hl (List.mem_filter.1 hb).1).2]
    omega
  · refine (List.pairwise_lt_range).imp fun {m n} hmn => ?_
    intro x hx y hy
    obtain ⟨a, ha, rfl⟩ := List.mem_map.1 hx
    obtain ⟨b, hb, rfl⟩ := List.mem_map.1 hy
    have ha' := kinds_may hl (List.mem_filter.1 ha).1
    have hb' := kinds_may hl (List.mem_filter.1 hb).1
    rw [keyP_pl ha'.2, keyP_pl hb'.2]
    have := key_bd ha'.1
    have := key_bd hb'.1
    omega
theorem filter_up {α : Type} {f : α → Int} {l : List α} (h : upF f l) (g : α → Bool) : upF f (l.filter g) := h.sublist List.filter_sublist
/-- Whether a place is one of what is asked for. -/
def isT (l : List Wt) (p : Pl) : Bool := l.any fun u => decide (kindT u = kdP p)
theorem isT_iff {l : List Wt} {p : Pl} : isT l p = true ↔ ∃ u ∈ l, kindT u = kdP p := by simp [isT]
end Go.Proofs.YtlahfffgmfjpaaaGreatDoor

/-
  Plain arithmetic of how many places there are (ahead of layer 12): along each axis as many bases as the dimension, or one, if the box has all of it; some just if a rotation fits. No program is walked here.
-/
namespace Go.Proofs.YtlahfffgmfjpaaaGreatDoor
open Go Go.RowKit Go.Shelf

/-- How many bases there are along an axis. -/
def sideN (d s : Int) : Int := if s < d then d else 1
/-- How many places of a kind there are. -/
def manyK (d0 d1 d2 : Int) : Wt → Int | (x, y, z, _) => sideN d0 x * sideN d1 y * sideN d2 z
def fitK (d0 d1 d2 : Int) (k : Wt) : Bool := withinT (d0, d1, d2) k
theorem hasS_zero {r e c : Int} (hc : 0 ≤ c) : hasS r 0 e c = decide (c < e) := by
  unfold hasS aft
  rw [if_pos hc, Int.sub_zero]
/-- A kind with no torus along an axis of 1 may be at a midplane, just if it fits, and lies at 0 along each axis that it has all of. -/
theorem may_kind {d0 d1 d2 : Int} (h : mayD d0 d1 d2) {u : Wt} (hu : mayT u) {m : Int} (hm : 0 ≤ m ∧ m < d0 * d1 * d2) :
    mayL d0 d1 d2 (plT d0 d1 m (kindT u)) = (fitK d0 d1 d2 (kindT u) && hasB d0 d1 d2 ⟨0, 0, 0, sideN d0 u.1, sideN d1 u.2.1, sideN d2 u.2.2.1⟩ m) := by
  obtain ⟨x, y, z, p, q, r, t⟩ := u
  obtain ⟨i0, i1, i2⟩ := inD_of_node h hm
  refine bool_ext ?_
  rw [mayL_iff, Bool.and_eq_true]
  simp only [mayT] at hu
  simp only [plT, kindT, fitK, withinT, hasB, Bool.and_eq_true]
  rw [hasS_zero i0.1, hasS_zero i1.1, hasS_zero i2.1, decide_eq_true_eq, decide_eq_true_eq, decide_eq_true_eq]
  unfold mayP mayB mayS canonB sideN
  simp only [Bx.mk.injEq, and_true]
  constructor
  · rintro ⟨⟨a0, a1, a2⟩, ⟨e0, e1, e2⟩, _⟩
    refine ⟨⟨⟨decide_eq_true a0.1.2, decide_eq_true a1.1.2⟩, decide_eq_true a2.1.2⟩, ⟨?_, ?_⟩, ?_⟩
    · by_cases q0 : x = d0
      · rw [if_pos q0] at e0; rw [if_neg (by omega)]; omega
      · rw [if_pos (by omega)]; omega
    · by_cases q0 : y = d1
      · rw [if_pos q0] at e1; rw [if_neg (by omega)]; omega
      · rw [if_pos (by omega)]; omega
    · by_cases q0 : z = d2
      · rw [if_pos q0] at e2; rw [if_neg (by omega)]; omega
      · rw [if_pos (by omega)]; omega
  · rintro ⟨⟨⟨f0, f1⟩, f2⟩, ⟨g0, g1⟩, g2⟩
    have f0 := of_decide_eq_true f0
    have f1 := of_decide_eq_true f1
    have f2 := of_decide_eq_true f2
    refine ⟨⟨⟨⟨by omega, f0⟩, i0⟩, ⟨⟨by omega, f1⟩, i1⟩, ⟨by omega, f2⟩, i2⟩, ⟨?_, ?_, ?_⟩, fun k ht => ?_⟩
    · split
      · rename_i q0; rw [if_neg (by omega)] at g0; omega
      · rfl
    · split
      · rename_i q0; rw [if_neg (by omega)] at g1; omega
      · rfl
    · split
      · rename_i q0; rw [if_neg (by omega)] at g2; omega
      · rfl
    · match k with
      | 0 =>
        simp only [tK, Bool.and_eq_true, decide_eq_true_eq] at ht
        show x ≠ 1
        omega
      | 1 =>
        simp only [tK, Bool.and_eq_true, decide_eq_true_eq] at ht
        show y ≠ 1
        omega
      | 2 =>
        simp only [tK, Bool.and_eq_true, decide_eq_true_eq] at ht
        show z ≠ 1
        omega
theorem side_ok {d s : Int} (hd : 1 ≤ d) : (0 ≤ (0 : Int) ∧ 0 < d) ∧ (0 ≤ sideN d s ∧ sideN d s ≤ d) := by unfold sideN; split <;> omega
/-- How many midplanes a kind may be at. -/
theorem at_count {d0 d1 d2 : Int} (h : mayD d0 d1 d2) {u : Wt} (hu : mayT u) :
    (((List.range (d0 * d1 * d2).toNat).filter fun m : Nat => mayL d0 d1 d2 (plT d0 d1 m (kindT u))).length : Int) = if fitK d0 d1 d2 (kindT u) then manyK d0 d1 d2 (kindT u) else 0 := by
  have e : ((List.range (d0 * d1 * d2).toNat).filter fun m : Nat => mayL d0 d1 d2 (plT d0 d1 m (kindT u))) = (List.range (d0 * d1 * d2).toNat).filter fun m : Nat => fitK d0 d1 d2 (kindT u) && hasB d0 d1 d2 ⟨0, 0, 0, sideN d0 u.1, sideN d1 u.2.1, sideN d2 u.2.2.1⟩ m := by
    refine List.filter_congr fun m hm => ?_
    have := List.mem_range.1 hm
    exact may_kind h hu (by omega)
  rw [e]
  cases hf : fitK d0 d1 d2 (kindT u)
  · simp
  · simp only [Bool.true_and, if_true]
    rw [← nodesB_filter]
    have hh := h
    obtain ⟨⟨l0, _⟩, ⟨l1, _⟩, l2, _⟩ := hh
    rw [nodes_count h (fun k => by
      match k with
      | 0 => exact side_ok l0
      | 1 => exact side_ok l1
      | 2 => exact side_ok l2)]
    obtain ⟨x, y, z, p, q, r, t⟩ := u
    rfl

/-- Counted by rows, or by columns. -/
theorem count_cols {α β : Type} (A : List α) (P : α → β → Bool) : ∀ K : List β, (A.map fun a => ((K.filter (P a)).length : Int)).sum = (K.map fun k => ((A.filter fun a => P a k).length : Int)).sum
  | [] => by
    have : (A.map fun a => ((([] : List β).filter (P a)).length : Int)) = A.map fun _ => (0 : Int) := by simp
    rw [this]
    induction A with
    | nil => rfl
    | cons a A ih => rw [List.map_cons, List.sum_cons, ih (by simp)]; simp
  | k :: K => by
    rw [List.map_cons, List.sum_cons, ← count_cols A P K]
    induction A with
    | nil => simp
    | cons a A ih =>
      rw [List.map_cons, List.sum_cons, List.map_cons, List.sum_cons, ih]
      rw [List.filter_cons, List.filter_cons (xs := A)]
      cases P a k
      · simp; omega
      · simp; omega
theorem len_flat {α β : Type} (f : α → List β) : ∀ l : List α, ((l.flatMap f).length : Int) = (l.map fun a => ((f a).length : Int)).sum
  | [] => rfl
  | a :: l => by rw [List.flatMap_cons, List.length_append, List.map_cons, List.sum_cons, ← len_flat f l]; omega
/-- How many places there are. -/
def manyT (d0 d1 d2 : Int) (l : List Wt) : Int := ((kindsT l).map fun k => if fitK d0 d1 d2 k then manyK d0 d1 d2 k else 0).sum
theorem every_len {d0 d1 d2 : Int} (h : mayD d0 d1 d2) {l : List Wt} (hl : ∀ u ∈ l, mayT u) : ((everyT d0 d1 d2 l).length : Int) = manyT d0 d1 d2 l := by
  unfold everyT
  rw [len_flat]
  simp only [List.length_map]
  unfold hereT
  rw [count_cols (List.range (d0 * d1 * d2).toNat) (fun (m : Nat) k => mayL d0 d1 d2 (plT d0 d1 m k)) (kindsT l)]
  unfold manyT
  congr 1
  refine List.map_congr_left fun k hk => ?_
  obtain ⟨u, hu, rfl⟩ := (kinds_mem hl).1 hk
  exact at_count h (hl u hu)
/-- As the document counts: each kind once, if it fits. -/
def manyStep (d0 d1 d2 : Int) (s : List Wt × Int) (u : Wt) : List Wt × Int :=
  (putT s.1 (kindT u), s.2 + if fitK d0 d1 d2 (kindT u) && !decide (kindT u ∈ s.1) then manyK d0 d1 d2 (kindT u) else 0)
theorem sum_ins (f : Wt → Int) (k : Wt) : ∀ l : List Wt, ((insT k l).map f).sum = (l.map f).sum + f k
  | [] => by simp [insT]
  | x :: l => by
    unfold insT
    split
    · rw [List.map_cons, List.sum_cons]; omega
    · rw [List.map_cons, List.sum_cons, sum_ins f k l, List.map_cons, List.sum_cons]; omega
theorem sum_put (f : Wt → Int) (k : Wt) (l : List Wt) : ((putT l k).map f).sum = (l.map f).sum + if k ∈ l then 0 else f k := by
  unfold putT
  by_cases h : k ∈ l
  · rw [if_pos h, if_pos h]; omega
  · rw [if_neg h, if_neg h, sum_ins]
theorem many_fold (d0 d1 d2 : Int) (l : List Wt) : ∀ s : List Wt × Int, s.2 = (s.1.map fun k => if fitK d0 d1 d2 k then manyK d0 d1 d2 k else 0).sum →
    (l.foldl (manyStep d0 d1 d2) s).1 = l.foldl (fun acc u => putT acc (kindT u)) s.1 ∧ (l.foldl (manyStep d0 d1 d2) s).2 = ((l.foldl (manyStep d0 d1 d2) s).1.map fun k => if fitK d0 d1 d2 k then manyK d0 d1 d2 k else 0).sum := by
  induction l with
  | nil => intro s h; exact ⟨rfl, h⟩
  | cons u l ih =>
    intro s h
    rw [List.foldl_cons, List.foldl_cons]
    refine ih (manyStep d0 d1 d2 s u) ?_
    unfold manyStep
    rw [sum_put, h]
    by_cases hk : kindT u ∈ s.1
    · simp [hk]
    · cases fitK d0 d1 d2 (kindT u) <;> simp [hk]
theorem many_told (d0 d1 d2 : Int) (l : List Wt) : (l.foldl (manyStep d0 d1 d2) ([], 0)).2 = manyT d0 d1 d2 l := by
  obtain ⟨h1, h2⟩ := many_fold d0 d1 d2 l ([], 0) rfl
  rw [h2, h1]; rfl

end Go.Proofs.YtlahfffgmfjpaaaGreatDoor
