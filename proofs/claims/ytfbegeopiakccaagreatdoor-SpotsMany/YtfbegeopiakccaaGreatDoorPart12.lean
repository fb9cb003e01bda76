/-
  Plain arithmetic of the places of what is asked for (ahead of layer 12): which they are, rising, each once; how many there are; the places of rotations. No program is walked here.
-/
import Derived.Test.YtfbegeopiakccaaGreatDoorPart6
import Derived.Test.YtfbegeopiakccaaGreatDoorPart11
import Derived.Test.YtfbegeopiakccaaGreatDoorPart5
namespace Go.Proofs.YtfbegeopiakccaaGreatDoor
open Go Go.RowKit Go.Shelf

/-- A place: its box, its tori. -/
abbrev Pl := Bx × Bool × Bool × Bool
/-- What a place has of a rotation: its lengths; a torus along an axis of more than 1. -/
def kindT : Wt → Wt | (x, y, z, p, q, r, _) => (x, y, z, p && decide (1 < x), q && decide (1 < y), r && decide (1 < z), false)
/-- The place of a kind at a midplane; a place's kind; the midplane at its base. -/
def plT (d0 d1 m : Int) : Wt → Pl | (x, y, z, p, q, r, _) => (⟨cx d0 m, cy d0 d1 m, cz d0 d1 m, x, y, z⟩, p, q, r)
def kdP : Pl → Wt | (b, p, q, r) => (b.a, b.b, b.c, p, q, r, false)
def atP (d0 d1 : Int) (p : Pl) : Int := numD d0 d1 p.1.x p.1.y p.1.z
def mayL (d0 d1 d2 : Int) (p : Pl) : Bool := mayPB d0 d1 d2 p.1 p.2.1 p.2.2.1 p.2.2.2
theorem mayL_iff {d0 d1 d2 : Int} {p : Pl} : mayL d0 d1 d2 p = true ↔ mayP d0 d1 d2 p.1 p.2.1 p.2.2.1 p.2.2.2 := mayPB_iff _ _ _ _ _ _ _
theorem kd_pl (d0 d1 m : Int) (k : Wt) (h : turnT k = false) : kdP (plT d0 d1 m k) = k := by
  obtain ⟨x, y, z, p, q, r, t⟩ := k
  simp only [turnT] at h
  subst h; rfl
theorem kind_turn (u : Wt) : turnT (kindT u) = false := by obtain ⟨x, y, z, p, q, r, t⟩ := u; rfl
theorem kind_may {u : Wt} (h : mayT u) : mayT (kindT u) := by obtain ⟨x, y, z, p, q, r, t⟩ := u; exact h
theorem at_pl {d0 d1 m : Int} (k : Wt) : atP d0 d1 (plT d0 d1 m k) = m := by
  obtain ⟨x, y, z, p, q, r, t⟩ := k
  exact num_of_node
/-- A place that may be is that of its kind at its midplane. -/
theorem pl_at {d0 d1 d2 : Int} (h : mayD d0 d1 d2) {p : Pl} (hp : mayL d0 d1 d2 p = true) : (0 ≤ atP d0 d1 p ∧ atP d0 d1 p < d0 * d1 * d2) ∧ plT d0 d1 (atP d0 d1 p) (kdP p) = p := by
  obtain ⟨⟨b0, b1, b2⟩, _⟩ := mayL_iff.1 hp
  obtain ⟨hm, e0, e1, e2⟩ := node_of_in h (p0 := p.1.x) (p1 := p.1.y) (p2 := p.1.z) ⟨b0.2, b1.2, b2.2⟩
  refine ⟨hm, ?_⟩
  obtain ⟨b, q, r, s⟩ := p
  simp only [plT, kdP, atP]
  rw [e0, e1, e2]

/-- The kinds of some rotations, rising, each once. -/
def kindsT (l : List Wt) : List Wt := l.foldl (fun acc u => putT acc (kindT u)) []
theorem kinds_gen {l : List Wt} : ∀ {acc : List Wt}, (∀ u ∈ l, mayT u) → (∀ x ∈ acc, mayT x ∧ turnT x = false) → Rises acc →
    Rises (l.foldl (fun acc u => putT acc (kindT u)) acc) ∧ (∀ x, x ∈ l.foldl (fun acc u => putT acc (kindT u)) acc ↔ x ∈ acc ∨ ∃ u ∈ l, kindT u = x) := by
  induction l with
  | nil => intro acc _ _ h; exact ⟨h, fun x => by simp⟩
  | cons v l ih =>
    intro acc hl ha hr
    have hv := hl v (by simp)
    obtain ⟨i1, i2⟩ := ih (acc := putT acc (kindT v)) (fun u hu => hl u (by simp [hu])) (fun x hx => by
      rcases put_mem.1 hx with e | hx
      · rw [e]; exact ⟨kind_may hv, kind_turn v⟩
      · exact ha x hx) (put_rises hr (kind_may hv) fun x hx => ⟨(ha x hx).1, (ha x hx).2.trans (kind_turn v).symm⟩)
    refine ⟨i1, fun x => ?_⟩
    rw [List.foldl_cons, i2, put_mem]
    simp only [List.mem_cons, exists_eq_or_imp]
    constructor
    · rintro ((e | h) | h)
      · exact .inr (.inl e.symm)
      · exact .inl h
      · exact .inr (.inr h)
    · rintro (h | e | h)
      · exact .inl (.inr h)
      · exact .inl (.inl e.symm)
      · exact .inr h
theorem kinds_rises {l : List Wt} (h : ∀ u ∈ l, mayT u) : Rises (kindsT l) := (kinds_gen h (fun x hx => by cases hx) (by simp [Rises])).1
theorem kinds_mem {l : List Wt} (h : ∀ u ∈ l, mayT u) {x : Wt} : x ∈ kindsT l ↔ ∃ u ∈ l, kindT u = x := by
  rw [kindsT, (kinds_gen h (fun x hx => by cases hx) (by simp [Rises])).2]
  simp
theorem kinds_may {l : List Wt} (h : ∀ u ∈ l, mayT u) {x : Wt} (hx : x ∈ kindsT l) : mayT x ∧ turnT x = false := by
  obtain ⟨u, hu, rfl⟩ := (kinds_mem h).1 hx
  exact ⟨kind_may (h u hu), kind_turn u⟩

/-- The kinds that may be at a midplane; the places, midplane by midplane. -/
def hereT (d0 d1 d2 : Int) (l : List Wt) (m : Nat) : List Wt := (kindsT l).filter fun k => mayL d0 d1 d2 (plT d0 d1 m k)
def everyT (d0 d1 d2 : Int) (l : List Wt) : List Pl := (List.range (d0 * d1 * d2).toNat).flatMap fun m => (hereT d0 d1 d2 l m).map (plT d0 d1 m)
theorem every_mem {d0 d1 d2 : Int} (h : mayD d0 d1 d2) {l : List Wt} (hl : ∀ u ∈ l, mayT u) {p : Pl} : p ∈ everyT d0 d1 d2 l ↔ mayL d0 d1 d2 p = true ∧ ∃ u ∈ l, kindT u = kdP p := by
  unfold everyT hereT
  simp only [List.mem_flatMap, List.mem_map, List.mem_filter, List.mem_range]
  constructor
  · rintro ⟨m, hm, k, ⟨hk, hmay⟩, rfl⟩
    refine ⟨hmay, ?_⟩
    rw [kd_pl _ _ _ _ (kinds_may hl hk).2]
    exact (kinds_mem hl).1 hk
  · rintro ⟨hp, u, hu, he⟩
    obtain ⟨hm, e⟩ := pl_at h hp
    refine ⟨(atP d0 d1 p).toNat, by omega, kdP p, ⟨(kinds_mem hl).2 ⟨u, hu, he⟩, ?_⟩, ?_⟩
    · rw [Int.toNat_of_nonneg hm.1, e]; exact hp
    · rw [Int.toNat_of_nonneg hm.1]; exact e

/-- Where a place stands in the order: by its midplane, then by its kind. -/
def keyP (d0 d1 : Int) (p : Pl) : Int := atP d0 d1 p * 262144 + keyT (kdP p)
theorem key_bd {k : Wt} (h : mayT k) : 0 ≤ keyT k ∧ keyT k < 262144 := by
  obtain ⟨x, y, z, p, q, r, t⟩ := k
  simp only [mayT] at h
  have b1 := bit_cases p
  have b2 := bit_cases q
  have b3 := bit_cases r
  simp only [keyT]
  omega
/-- Lists that rise by a key are told by what is in them. -/
def upF {α : Type} (f : α → Int) (l : List α) : Prop := l.Pairwise fun a b => f a < f b
theorem upF_ext {α : Type} {f : α → Int} : ∀ {a b : List α}, upF f a → upF f b → (∀ x, x ∈ a ↔ x ∈ b) → a = b
  | [], [], _, _, _ => rfl
  | [], y :: bs, _, _, h => absurd ((h y).2 (by simp)) (by simp)
  | x :: a, [], _, _, h => absurd ((h x).1 (by simp)) (by simp)
  | x :: a, y :: bs, ha, hb, h => by
    have hxa := (List.pairwise_cons.1 ha).1
    have hyb := (List.pairwise_cons.1 hb).1
    have e : x = y := by
      rcases List.mem_cons.1 ((h x).1 (by simp)) with e | hx
      · exact e
      · rcases List.mem_cons.1 ((h y).2 (by simp)) with e | hy
        · exact e.symm
        · have := hxa y hy
          have := hyb x hx
          omega
    subst e
    congr 1
    refine upF_ext (List.pairwise_cons.1 ha).2 (List.pairwise_cons.1 hb).2 fun z => ?_
    constructor
    · intro hz
      rcases List.mem_cons.1 ((h z).1 (by simp [hz])) with e | hz'
      · have := hxa z hz
        rw [e] at this; omega
      · exact hz'
    · intro hz
      rcases List.mem_cons.1 ((h z).2 (by simp [hz])) with e | hz'
      · have := hyb z hz
        rw [e] at this; omega
      · exact hz'
theorem upF_nodup {α : Type} {f : α → Int} {l : List α} (h : upF f l) : l.Nodup := h.imp fun hab e => by rw [e] at hab; omega
/-- The same ones, none behind a greater one, and no two with one key: they rise. -/
theorem upF_sorted {α : Type} {f : α → Int} {l : List α} (hn : l.Nodup) (hinj : ∀ a ∈ l, ∀ b ∈ l, f a = f b → a = b) (hs : l.Pairwise fun a b => ¬ f b < f a) : upF f l := by
  have h2 := List.pairwise_and_iff.2 ⟨hs, hn⟩
  refine h2.imp_of_mem fun {a b} ha hb hab => ?_
  have := hab.1
  by_cases e : f a = f b
  · exact absurd (hinj a ha b hb e) hab.2
  · omega
theorem keyP_pl {d0 d1 m : Int} {k : Wt} (ht : turnT k = false) : keyP d0 d1 (plT d0 d1 m k) = m * 262144 + keyT k := by rw [keyP, at_pl, kd_pl _ _ _ _ ht]
theorem every_up {d0 d1 d2 : Int} {l : List Wt} (hl : ∀ u ∈ l, mayT u) : upF (keyP d0 d1) (everyT d0 d1 d2 l) := by
  unfold upF everyT
  rw [List.pairwise_flatMap]
  refine ⟨fun m _ => ?_, ?_⟩
  · rw [List.pairwise_map]
    have hr : Rises (hereT d0 d1 d2 l m) := (kinds_rises hl).sublist List.filter_sublist
    refine hr.imp_of_mem fun {a b} ha hb hab => ?_
    rw [keyP_pl (kinds_may hl (List.mem_filter.1 ha).1).2, keyP_pl (kinds_may hl (List.mem_filter.1 hb).1).2]
    omega
  · refine (List.pairwise_lt_range).imp fun {m n} hmn => ?_
    intro x hx y hy
    obtain ⟨a, ha, rfl⟩ := List.mem_map.1 hx
    obtain ⟨b, hb, rfl⟩ := List.mem_map.1 hy
    have ha' := kinds_may hl (List.mem_filter.1 ha).1
    have hb' := kinds_may hl (List.mem_filter.1 hb).1
    rw [keyP_pl ha'.2, keyP_pl hb'.2]
    have := key_bd ha'.1
    have := key_bd hb'.1
    omega
theorem filter_up {α : Type} {f : α → Int} {l : List α} (h : upF f l) (g : α → Bool) : upF f (l.filter g) := h.sublist List.filter_sublist
/-- Two places that may be with one key are one. -/
theorem keyP_inj {d0 d1 d2 : Int} (h : mayD d0 d1 d2) {a b : Pl} (ha : mayL d0 d1 d2 a = true) (hb : mayL d0 d1 d2 b = true) (e : keyP d0 d1 a = keyP d0 d1 b) : a = b := by
  have km : ∀ p : Pl, mayL d0 d1 d2 p = true → mayT (kdP p) ∧ turnT (kdP p) = false := fun p hp => by
    obtain ⟨⟨b0, b1, b2⟩, _⟩ := mayL_iff.1 hp
    obtain ⟨⟨_, u0⟩, ⟨_, u1⟩, _, u2⟩ := h
    have q0 := b0.1
    have q1 := b1.1
    have q2 := b2.1
    refine ⟨?_, rfl⟩
    show 1 ≤ p.1.a ∧ p.1.a ≤ 16 ∧ 1 ≤ p.1.b ∧ p.1.b ≤ 16 ∧ 1 ≤ p.1.c ∧ p.1.c ≤ 16
    omega
  have ka := km a ha
  have kb := km b hb
  obtain ⟨hma, ea⟩ := pl_at h ha
  obtain ⟨hmb, eb⟩ := pl_at h hb
  have b1 := key_bd ka.1
  have b2 := key_bd kb.1
  unfold keyP at e
  have e1 : atP d0 d1 a = atP d0 d1 b := by omega
  have e2 : keyT (kdP a) = keyT (kdP b) := by omega
  have e3 := key_inj ka.1 kb.1 (ka.2.trans kb.2.symm) e2
  rw [← ea, ← eb, e1, e3]

/-- Whether a place is one of what is asked for. -/
def isT (l : List Wt) (p : Pl) : Bool := l.any fun u => decide (kindT u = kdP p)
theorem isT_iff {l : List Wt} {p : Pl} : isT l p = true ↔ ∃ u ∈ l, kindT u = kdP p := by simp [isT]
/-- How often a place is listed. -/
theorem count_one {α : Type} [DecidableEq α] {l : List α} (h : l.Nodup) (x : α) : l.countP (fun y => decide (y = x)) = if x ∈ l then 1 else 0 := by
  have h1 : l.countP (fun y => decide (y = x)) = l.count x := by
    rw [List.count_eq_countP]
    congr 1
  rw [h1]
  by_cases hx : x ∈ l
  · rw [if_pos hx, List.Nodup.count h, if_pos hx]
  · rw [if_neg hx, List.count_eq_zero.2 hx]

/-- Each of a rotation's places is one of what may be turned, and each of these is one of a rotation's. -/
theorem every_rot {d0 d1 d2 : Int} (h : mayD d0 d1 d2) {l : List Wt} (hl : ∀ u ∈ l, mayT u) {p : Pl} : p ∈ everyT d0 d1 d2 l ↔ ∃ u ∈ l, p ∈ everyT d0 d1 d2 [u] := by
  rw [every_mem h hl]
  constructor
  · rintro ⟨hp, u, hu, e⟩
    exact ⟨u, hu, (every_mem h (by simpa using hl u hu)).2 ⟨hp, u, by simp, e⟩⟩
  · rintro ⟨u, hu, hp⟩
    obtain ⟨h1, v, hv, e⟩ := (every_mem h (by simpa using hl u hu)).1 hp
    rw [List.mem_singleton] at hv
    subst hv
    exact ⟨h1, v, hu, e⟩

end Go.Proofs.YtfbegeopiakccaaGreatDoor

/-
  Plain arithmetic of how many places there are (ahead of layer 12): along each axis as many bases as the dimension, or one, if the box has all of it; some just if a rotation fits. No program is walked here.
-/
namespace Go.Proofs.YtfbegeopiakccaaGreatDoor
open Go Go.RowKit Go.Shelf

/-- How many bases there are along an axis. -/
def sideN (d s : Int) : Int := if s < d then d else 1
/-- How many places of a kind there are. -/
def manyK (d0 d1 d2 : Int) : Wt → Int | (x, y, z, _) => sideN d0 x * sideN d1 y * sideN d2 z
def fitK (d0 d1 d2 : Int) (k : Wt) : Bool := withinT (d0, d1, d2) k
theorem hasS_zero {r e c : Int} (hc : 0 ≤ c) : hasS r 0 e c = decide (c < e) := by
  unfold hasS aft
  rw [if_pos hc, Int.sub_zero]
/-- A kind with no torus along an axis of 1 may be at a midplane, just if it fits, and lies at 0 along each axis that it has all of. -/
theorem may_kind {d0 d1 d2 : Int} (h : mayD d0 d1 d2) {u : Wt} (hu : mayT u) {m : Int} (hm : 0 ≤ m ∧ m < d0 * d1 * d2) :
    mayL d0 d1 d2 (plT d0 d1 m (kindT u)) = (fitK d0 d1 d2 (kindT u) && hasB d0 d1 d2 ⟨0, 0, 0, sideN d0 u.1, sideN d1 u.2.1, sideN d2 u.2.2.1⟩ m) := by
  obtain ⟨x, y, z, p, q, r, t⟩ := u
  obtain ⟨i0, i1, i2⟩ := inD_of_node h hm
  refine bool_ext ?_
  rw [mayL_iff, Bool.and_eq_true]
  simp only [mayT] at hu
  simp only [plT, kindT, fitK, withinT, hasB, Bool.and_eq_true]
  rw [hasS_zero i0.1, hasS_zero i1.1, hasS_zero i2.1, decide_eq_true_eq, decide_eq_true_eq, decide_eq_true_eq]
  unfold mayP mayB mayS canonB sideN
  simp only [Bx.mk.injEq, and_true]
  constructor
  · rintro ⟨⟨a0, a1, a2⟩, ⟨e0, e1, e2⟩, _⟩
    refine ⟨⟨⟨decide_eq_true a0.1.2, decide_eq_true a1.1.2⟩, decide_eq_true a2.1.2⟩, ⟨?_, ?_⟩, ?_⟩
    · by_cases q0 : x = d0
      · rw [if_pos q0] at e0; rw [if_neg (by omega)]; omega
      · rw [if_pos (by omega)]; omega
    · by_cases q0 : y = d1
      · rw [if_pos q0] at e1; rw [if_neg (by omega)]; omega
      · rw [if_pos (by omega)]; omega
    · by_cases q0 : z = d2
      · rw [if_pos q0] at e2; rw [if_neg (by omega)]; omega
      · rw [if_pos (by omega)]; omega
  · rintro ⟨⟨⟨f0, f1⟩, f2⟩, ⟨g0, g1⟩, g2⟩
    have f0 := of_decide_eq_true f0
    have f1 := of_decide_eq_true f1
    have f2 := of_decide_eq_true f2
    refine ⟨⟨⟨⟨by omega, f0⟩, i0⟩, ⟨⟨by omega, f1⟩, i1⟩, ⟨by omega, f2⟩, i2⟩, ⟨?_, ?_, ?_⟩, fun k ht => ?_⟩
    · split
      · rename_i q0; rw [if_neg (by omega)] at g0; omega
      · rfl
    · split
      · rename_i q0; rw [if_neg (by omega)] at g1; omega
      · rfl
    · split
      · rename_i q0; rw [if_neg (by omega)] at g2; omega
      · rfl
    · match k with
      | 0 =>
        simp only [tK, Bool.and_eq_true, decide_eq_true_eq] at ht
        show x ≠ 1
        omega
      | 1 =>
        simp only [tK, Bool.and_eq_true, decide_eq_true_eq] at ht
        show y ≠ 1
        omega
      | 2 =>
        simp only [tK, Bool.and_eq_true, decide_eq_true_eq] at ht
        show z ≠ 1
        omega
theorem side_ok {d s : Int} (hd : 1 ≤ d) : (0 ≤ (0 : Int) ∧ 0 < d) ∧ (0 ≤ sideN d s ∧ sideN d s ≤ d) := by unfold sideN; split <;> omega
/-- How many midplanes a kind may be at. -/
theorem at_count {d0 d1 d2 : Int} (h : mayD d0 d1 d2) {u : Wt} (hu : mayT u) :
    (((List.range (d0 * d1 * d2).toNat).filter fun m : Nat => mayL d0 d1 d2 (plT d0 d1 m (kindT u))).length : Int) = if fitK d0 d1 d2 (kindT u) then manyK d0 d1 d2 (kindT u) else 0 := by
  have e : ((List.range (d0 * d1 * d2).toNat).filter fun m : Nat => mayL d0 d1 d2 (plT d0 d1 m (kindT u))) = (List.range (d0 * d1 * d2).toNat).filter fun m : Nat => fitK d0 d1 d2 (kindT u) && hasB d0 d1 d2 ⟨0, 0, 0, sideN d0 u.1, sideN d1 u.2.1, sideN d2 u.2.2.1⟩ m := by
    refine List.filter_congr fun m hm => ?_
    have := List.mem_range.1 hm
    exact may_kind h hu (by omega)
  rw [e]
  cases hf : fitK d0 d1 d2 (kindT u)
  · simp
  · simp only [Bool.true_and, if_true]
    rw [← nodesB_filter]
    have hh := h
    obtain ⟨⟨l0, _⟩, ⟨l1, _⟩, l2, _⟩ := hh
    rw [nodes_count h (fun k => by
      match k with
      | 0 => exact side_ok l0
      | 1 => exact side_ok l1
      | 2 => exact side_ok l2)]
    obtain ⟨x, y, z, p, q, r, t⟩ := u
    rfl

/-- Counted by rows, or by columns. -/
theorem count_cols {α β : Type} (A : List α) (P : α → β → Bool) : ∀ K : List β, (A.map fun a => ((K.filter (P a)).length : Int)).sum = (K.map fun k => ((A.filter fun a => P a k).length : Int)).sum
  | [] => by
    have : (A.map fun a => ((([] : List β).filter (P a)).length : Int)) = A.map fun _ => (0 : Int) := by simp
    rw [this]
    induction A with
    | nil => rfl
    | cons a A ih => rw [List.map_cons, List.sum_cons, ih (by simp)]; simp
  | k :: K => by
    rw [List.map_cons, List.sum_cons, ← count_cols A P K]
    induction A with
    | nil => simp
    | cons a A ih =>
      rw [List.map_cons, List.sum_cons, List.map_cons, List.sum_cons, ih]
      rw [List.filter_cons, List.filter_cons (xs := A)]
      cases P a k
      · simp; omega
      · simp; omega
theorem len_flat {α β : Type} (f : α → List β) : ∀ l : List α, ((l.flatMap f).length : Int) = (l.map fun a => ((f a).length : Int)).sum
  | [] => rfl
  | a :: l => by rw [List.flatMap_cons, List.length_append, List.map_cons, List.sum_cons, ← len_flat f l]; omega
/-- How many places there are. -/
def manyT (d0 d1 d2 : Int) (l : List Wt) : Int := ((kindsT l).map fun k => if fitK d0 d1 d2 k then manyK d0 d1 d2 k else 0).sum
theorem every_len {d0 d1 d2 : Int} (h : mayD d0 d1 d2) {l : List Wt} (hl : ∀ u ∈ l, mayT u) : ((everyT d0 d1 d2 l).length : Int) = manyT d0 d1 d2 l := by
  unfold everyT
  rw [len_flat]
  simp only [List.length_map]
  unfold hereT
  rw [count_cols (List.range (d0 * d1 * d2).toNat) (fun (m : Nat) k => mayL d0 d1 d2 (plT d0 d1 m k)) (kindsT l)]
  unfold manyT
  congr 1
  refine List.map_congr_left fun k hk => ?_
  obtain ⟨u, hu, rfl⟩ := (kinds_mem hl).1 hk
  exact at_count h (hl u hu)
/-- There are some just if a rotation fits. -/
theorem many_some {d0 d1 d2 : Int} (h : mayD d0 d1 d2) {w : Wt} (hl : ∀ u ∈ turnsT w, mayT u) : fitsT (d0, d1, d2) w = decide (0 < manyT d0 d1 d2 (turnsT w)) := by
  refine bool_ext ?_
  rw [fits_iff, decide_eq_true_eq, ← every_len h hl]
  have hN := N_bd h
  constructor
  · rintro ⟨u, hu, hw⟩
    have hz : 0 ≤ (0 : Int) ∧ (0 : Int) < d0 * d1 * d2 := ⟨by omega, by omega⟩
    have h0 : mayL d0 d1 d2 (plT d0 d1 0 (kindT u)) = true := by
      rw [may_kind h (hl u hu) hz, Bool.and_eq_true]
      obtain ⟨x, y, z, p, q, r, t⟩ := u
      refine ⟨hw, ?_⟩
      have e0 : cx d0 0 = 0 := by simp [cx]
      have e1 : cy d0 d1 0 = 0 := by simp [cy]
      have e2 : cz d0 d1 0 = 0 := by simp [cz]
      obtain ⟨⟨l0, _⟩, ⟨l1, _⟩, l2, _⟩ := h
      unfold hasB
      rw [e0, e1, e2]
      simp only [hasS_zero (Int.le_refl 0), Bool.and_eq_true, decide_eq_true_eq, sideN]
      refine ⟨⟨?_, ?_⟩, ?_⟩ <;> split <;> omega
    have hm : plT d0 d1 0 (kindT u) ∈ everyT d0 d1 d2 (turnsT w) := (every_mem h hl).2 ⟨h0, u, hu, (kd_pl _ _ _ _ (kind_turn u)).symm⟩
    have := List.length_pos_of_mem hm
    omega
  · intro hp
    obtain ⟨p, hm⟩ := List.exists_mem_of_length_pos (show 0 < (everyT d0 d1 d2 (turnsT w)).length by omega)
    obtain ⟨hmay, u, hu, e⟩ := (every_mem h hl).1 hm
    refine ⟨u, hu, ?_⟩
    obtain ⟨⟨b0, b1, b2⟩, _⟩ := mayL_iff.1 hmay
    obtain ⟨x, y, z, pp, q, r, t⟩ := u
    simp only [kindT, kdP, Prod.mk.injEq] at e
    obtain ⟨rfl, rfl, rfl, _⟩ := e
    simp only [withinT, Bool.and_eq_true, decide_eq_true_eq]
    exact ⟨⟨b0.1.2, b1.1.2⟩, b2.1.2⟩

/-- As the document counts: each kind once, if it fits. -/
def manyStep (d0 d1 d2 : Int) (s : List Wt × Int) (u : Wt) : List Wt × Int :=
  (putT s.1 (kindT u), s.2 + if fitK d0 d1 d2 (kindT u) && !decide (kindT u ∈ s.1) then manyK d0 d1 d2 (kindT u) else 0)
theorem sum_ins (f : Wt → Int) (k : Wt) : ∀ l : List Wt, ((insT k l).map f).sum = (l.map f).sum + f k
  | [] => by simp [insT]
  | x :: l => by
    unfold insT
    split
    · rw [List.map_cons, List.sum_cons]; omega
    · rw [List.map_cons, List.sum_cons, sum_ins f k l, List.map_cons, List.sum_cons]; omega
theorem sum_put (f : Wt → Int) (k : Wt) (l : List Wt) : ((putT l k).map f).sum = (l.map f).sum + if k ∈ l then 0 else f k := by
  unfold putT
  by_cases h : k ∈ l
  · rw [if_pos h, if_pos h]; omega
  · rw [if_neg h, if_neg h, sum_ins]
theorem many_fold (d0 d1 d2 : Int) (l : List Wt) : ∀ s : List Wt × Int, s.2 = (s.1.map fun k => if fitK d0 d1 d2 k then manyK d0 d1 d2 k else 0).sum →
    (l.foldl (manyStep d0 d1 d2) s).1 = l.foldl (fun acc u => putT acc (kindT u)) s.1 ∧ (l.foldl (manyStep d0 d1 d2) s).2 = ((l.foldl (manyStep d0 d1 d2) s).1.map fun k => if fitK d0 d1 d2 k then manyK d0 d1 d2 k else 0).sum := by
  induction l with
  | nil => intro s h; exact ⟨rfl, h⟩
  | cons u l ih =>
    intro s h
    rw [List.foldl_cons, List.foldl_cons]
    refine ih (manyStep d0 d1 d2 s u) ?_
    unfold manyStep
    rw [sum_put, h]
    by_cases hk : kindT u ∈ s.1
    · simp [hk]
    · cases fitK d0 d1 d2 (kindT u) <;> simp [hk]
theorem many_told (d0 d1 d2 : Int) (l : List Wt) : (l.foldl (manyStep d0 d1 d2) ([], 0)).2 = manyT d0 d1 d2 l := by
  obtain ⟨h1, h2⟩ := many_fold d0 d1 d2 l ([], 0) rfl
  rw [h2, h1]; rfl

/-- What takes all has no place. -/
theorem none_all {d0 d1 d2 : Int} (h : mayD d0 d1 d2) {p : Pl} (hp : mayL d0 d1 d2 p = true) : ∃ m : Nat, m < (d0 * d1 * d2).toNat ∧ hasB d0 d1 d2 p.1 (m : Int) = true := by
  obtain ⟨hb, _⟩ := mayL_iff.1 hp
  have h1 := base_has h hb
  have h2 := (base_node h hb).1
  exact ⟨(baseN d0 d1 p.1).toNat, by omega, by rw [Int.toNat_of_nonneg h2.1]; exact h1⟩

end Go.Proofs.YtfbegeopiakccaaGreatDoor

/-
  place.Check and place.first: what each call answers; nothing that lay before is turned.
-/
namespace Go.Proofs.YtfbegeopiakccaaGreatDoor
open Go Go.RowKit Go.Shelf

theorem bx0 (x y z : Bool) (w : World) : (Instr.index 29 (.agg #[.bool x, .bool y, .bool z]) (.int .i64 0)).run Tryz.prog w = .ok (.bool x) w := by kernel_rfl
theorem bx1 (x y z : Bool) (w : World) : (Instr.index 29 (.agg #[.bool x, .bool y, .bool z]) (.int .i64 1)).run Tryz.prog w = .ok (.bool y) w := by kernel_rfl
theorem bx2 (x y z : Bool) (w : World) : (Instr.index 29 (.agg #[.bool x, .bool y, .bool z]) (.int .i64 2)).run Tryz.prog w = .ok (.bool z) w := by kernel_rfl

attribute [local go_sem] Oper.semAt_some ext_const eq_arr eq_arr9 same3_self bx0 bx1 bx2

abbrev C9 (b : Bx) (p q r : Bool) : Array Value := #[I b.x, I b.y, I b.z, I b.a, I b.b, I b.c, .bool p, .bool q, .bool r]
theorem Blk.nine {W W' : World} {B : Nat} {t : TypeId} {b : Bx} {p q r : Bool} (h : Blk W B t (C9 b p q r)) (hb : Below W.heap.size W W') :
    (W'.cell? ⟨B, 0, none⟩ = some (I b.x) ∧ W'.cell? ⟨B, 1, none⟩ = some (I b.y) ∧ W'.cell? ⟨B, 2, none⟩ = some (I b.z)) ∧ (W'.cell? ⟨B, 3, none⟩ = some (I b.a) ∧ W'.cell? ⟨B, 4, none⟩ = some (I b.b) ∧ W'.cell? ⟨B, 5, none⟩ = some (I b.c)) ∧
    (W'.cell? ⟨B, 6, none⟩ = some (.bool p) ∧ W'.cell? ⟨B, 7, none⟩ = some (.bool q) ∧ W'.cell? ⟨B, 8, none⟩ = some (.bool r)) ∧ B < W'.heap.size :=
  ⟨⟨(h.later hb).cell 0, (h.later hb).cell 1, (h.later hb).cell 2⟩, ⟨(h.later hb).cell 3, (h.later hb).cell 4, (h.later hb).cell 5⟩, ⟨(h.later hb).cell 6, (h.later hb).cell 7, (h.later hb).cell 8⟩, (h.later hb).lt⟩

theorem errP_err {d0 d1 d2 : Int} {b : Bx} (t0 t1 t2 : Bool) (he : (errB d0 d1 d2 b != 0) = true) : errP d0 d1 d2 b t0 t1 t2 = errB d0 d1 d2 b := by
  unfold errB at he ⊢
  unfold errP
  cases h1 : okDB d0 d1 d2
  · rfl
  · cases h2 : mayBB d0 d1 d2 b
    · simp [mayPB, h2]
    · simp [h1, h2, codeOf] at he
theorem errP_box {d0 d1 d2 : Int} {b : Bx} (t0 t1 t2 : Bool) (hm : mayD d0 d1 d2) (hb : mayB d0 d1 d2 b) : errP d0 d1 d2 b t0 t1 t2 = codeOf (sameBx b (canonB d0 d1 d2 b) && !torB b t0 t1 t2) := by
  unfold errP mayPB
  rw [(okDB_iff _ _ _).2 hm, (mayBB_iff _ _ _ _).2 hb]
  simp

set_option maxRecDepth 100000 in
set_option maxHeartbeats 2000000 in
theorem pcheck_err {d0 d1 d2 : Int} {b : Bx} (t0 t1 t2 : Bool) (w : World) (he : (errB d0 d1 d2 b != 0) = true) :
    Calls Tryz.prog 33 #[A3 d0 d1 d2, P9 b t0 t1 t2] w fun e W' => e = .returned (I (errB d0 d1 d2 b)) ∧ Below w.heap.size w W' := by
  have HC : Hid (∀ w, Calls Tryz.prog 64 #[A3 d0 d1 d2, B6 b] w fun e W' => e = .returned (.tuple #[B6 ⟨0, 0, 0, 0, 0, 0⟩, I (errB d0 d1 d2 b)]) ∧ Below w.heap.size w W') := fun w => bcanon_err w he
  generalize errB d0 d1 d2 b = er at *
  go_enter Tryz.func33, Tryz.ntmps33
  go_wp2_with fail
  obtain ⟨W, hW, hB0, b0, b1⟩ := two_start w #[I d0, I d1, I d2] (C9 b t0 t1 t2) 27 40
  rw [hW]
  clear hW
  refine (HC.out _).mono ?_
  rintro e w1 ⟨rfl, hT⟩
  have hB := then_below hB0 hT
  clear hT b0 b1
  go_wp2
  go_ret
  exact ⟨rfl, then_alloc hB _⟩

set_option maxRecDepth 100000 in
set_option maxHeartbeats 4000000 in
theorem pcheck_not {d0 d1 d2 : Int} {b : Bx} (t0 t1 t2 : Bool) (w : World) (hm : mayD d0 d1 d2) (hb : mayB d0 d1 d2 b) (hs : sameBx b (canonB d0 d1 d2 b) = false) :
    Calls Tryz.prog 33 #[A3 d0 d1 d2, P9 b t0 t1 t2] w fun e W' => e = .returned (I 2) ∧ Below w.heap.size w W' := by
  have HC : Hid (∀ w, Calls Tryz.prog 64 #[A3 d0 d1 d2, B6 b] w fun e W' => e = .returned (.tuple #[B6 (canonB d0 d1 d2 b), I 0]) ∧ Below w.heap.size w W') := fun w => bcanon_ok w hm hb
  generalize canonB d0 d1 d2 b = c at *
  have hs : same3 b.x b.y b.z c.x c.y c.z = false ∨ (same3 b.x b.y b.z c.x c.y c.z = true ∧ same3 b.a b.b b.c c.a c.b c.c = false) := by
    unfold sameBx at hs
    cases h1 : same3 b.x b.y b.z c.x c.y c.z
    · exact .inl rfl
    · rw [h1, Bool.true_and] at hs
      exact .inr ⟨rfl, hs⟩
  rcases hs with h1 | ⟨h1, h2⟩
  · go_enter Tryz.func33, Tryz.ntmps33
    go_wp2_with fail
    obtain ⟨W, hW, hB0, b0, b1⟩ := two_start w #[I d0, I d1, I d2] (C9 b t0 t1 t2) 27 40
    rw [hW]
    clear hW
    refine (HC.out _).mono ?_
    rintro e w1 ⟨rfl, hT⟩
    have hB := then_below hB0 hT
    obtain ⟨⟨x0, x1, x2⟩, ⟨x3, x4, x5⟩, _, hz⟩ := b1.nine hT
    clear hT b0 b1 hB0
    go_wp2
    go_ret
    exact ⟨rfl, then_alloc hB _⟩
  · go_enter Tryz.func33, Tryz.ntmps33
    go_wp2_with fail
    obtain ⟨W, hW, hB0, b0, b1⟩ := two_start w #[I d0, I d1, I d2] (C9 b t0 t1 t2) 27 40
    rw [hW]
    clear hW
    refine (HC.out _).mono ?_
    rintro e w1 ⟨rfl, hT⟩
    have hB := then_below hB0 hT
    obtain ⟨⟨x0, x1, x2⟩, ⟨x3, x4, x5⟩, _, hz⟩ := b1.nine hT
    clear hT b0 b1 hB0
    go_wp2
    go_ret
    exact ⟨rfl, then_alloc hB _⟩

set_option maxRecDepth 100000 in
set_option maxHeartbeats 4000000 in
theorem pcheck_same {d0 d1 d2 : Int} {b : Bx} (t0 t1 t2 : Bool) (w : World) (hm : mayD d0 d1 d2) (hb : mayB d0 d1 d2 b) (hs : canonB d0 d1 d2 b = b) :
    Calls Tryz.prog 33 #[A3 d0 d1 d2, P9 b t0 t1 t2] w fun e W' => e = .returned (I (codeOf (!torB b t0 t1 t2))) ∧ Below w.heap.size w W' := by
  have HC : Hid (∀ w, Calls Tryz.prog 64 #[A3 d0 d1 d2, B6 b] w fun e W' => e = .returned (.tuple #[B6 b, I 0]) ∧ Below w.heap.size w W') := fun w => by have := bcanon_ok (b := b) w hm hb; rwa [hs] at this
  clear hs hb hm
  have HY : Hid (torB b t0 t1 t2 = true → codeOf (!torB b t0 t1 t2) = 2) := fun h => by simp [h, codeOf]
  have HN : Hid (torB b t0 t1 t2 = false → codeOf (!torB b t0 t1 t2) = 0) := fun h => by simp [h, codeOf]
  have HT : Hid (torB b t0 t1 t2 = ((t0 && b.a == 1) || (t1 && b.b == 1) || (t2 && b.c == 1))) := rfl
  generalize codeOf (!torB b t0 t1 t2) = er at *
  generalize torB b t0 t1 t2 = tb at *
  go_enter Tryz.func33, Tryz.ntmps33
  go_wp2_with fail
  obtain ⟨W, hW, hB0, b0, b1⟩ := two_start w #[I d0, I d1, I d2] (C9 b t0 t1 t2) 27 40
  rw [hW]
  clear hW
  refine (HC.out _).mono ?_
  rintro e w1 ⟨rfl, hT⟩
  have hB := then_below hB0 hT
  obtain ⟨⟨x0, x1, x2⟩, ⟨x3, x4, x5⟩, ⟨x6, x7, x8⟩, hz⟩ := b1.nine hT
  have hB2 := then_alloc hB (.cells (C6 b) 38)
  clear hT b0 b1 hB0 hB
  go_wp2_with fail
  go_loopw [25] (fun i wr => ((i = .int .i64 0) ∨ (i = .int .i64 1 ∧ Hid ((t0 && b.a == 1) = false)) ∨ (i = .int .i64 2 ∧ Hid ((t0 && b.a == 1) = false) ∧ Hid ((t1 && b.b == 1) = false)) ∨ (i = .int .i64 3 ∧ Hid ((t0 && b.a == 1) = false) ∧ Hid ((t1 && b.b == 1) = false) ∧ Hid ((t2 && b.c == 1) = false))) ∧ wr = w1.alloc (.cells (C6 b) 38)) (fun i _ => 3 - (RowKit.intOf i).toNat)
  case atStart => exact ⟨.inl rfl, rfl⟩
  case round =>
    obtain ⟨hi, rfl⟩ := hrel
    rcases hi with rfl | ⟨rfl, h0⟩ | ⟨rfl, h0, h1⟩ | ⟨rfl, h0, h1, h2⟩
    · cases t0
      · go_wp2
        go_roundw
        case rel => exact ⟨.inr (.inl ⟨rfl, by show _ = _; simp⟩), by trivial⟩
        case measure => simp [RowKit.intOf]
      · cases hq : b.a == 1
        · go_wp2
          go_roundw
          case rel => exact ⟨.inr (.inl ⟨rfl, by show _ = _; simp⟩), by trivial⟩
          case measure => simp [RowKit.intOf]
        · go_wp2
          go_ret
          exact ⟨by rw [HY.out (by rw [HT.out, hq]; simp)]; rfl, hB2⟩
    · cases t1
      · go_wp2
        go_roundw
        case rel => exact ⟨.inr (.inr (.inl ⟨rfl, h0, by show _ = _; simp⟩)), by trivial⟩
        case measure => simp [RowKit.intOf]
      · cases hq : b.b == 1
        · go_wp2
          go_roundw
          case rel => exact ⟨.inr (.inr (.inl ⟨rfl, h0, by show _ = _; simp⟩)), by trivial⟩
          case measure => simp [RowKit.intOf]
        · go_wp2
          go_ret
          exact ⟨by rw [HY.out (by rw [HT.out, hq]; simp)]; rfl, hB2⟩
    · cases t2
      · go_wp2
        go_roundw
        case rel => exact ⟨.inr (.inr (.inr ⟨rfl, h0, h1, by show _ = _; simp⟩)), by trivial⟩
        case measure => simp [RowKit.intOf]
      · cases hq : b.c == 1
        · go_wp2
          go_roundw
          case rel => exact ⟨.inr (.inr (.inr ⟨rfl, h0, h1, by show _ = _; simp⟩)), by trivial⟩
          case measure => simp [RowKit.intOf]
        · go_wp2
          go_ret
          exact ⟨by rw [HY.out (by rw [HT.out, hq]; simp)]; rfl, hB2⟩
    · go_wp2
      go_ret
      exact ⟨by rw [HN.out (by rw [HT.out, h0.out, h1.out, h2.out]; rfl)]; rfl, hB2⟩

/-- Whether a place may be: the document's answer. -/
theorem pcheck_calls (d0 d1 d2 : Int) (b : Bx) (t0 t1 t2 : Bool) (w : World) :
    Calls Tryz.prog 33 #[A3 d0 d1 d2, P9 b t0 t1 t2] w fun e W' => e = .returned (I (errP d0 d1 d2 b t0 t1 t2)) ∧ Below w.heap.size w W' := by
  rcases errB_cases d0 d1 d2 b with ⟨hm, hb, he⟩ | ⟨he, _⟩
  · rw [errP_box t0 t1 t2 hm hb]
    cases hs : sameBx b (canonB d0 d1 d2 b)
    · exact pcheck_not t0 t1 t2 w hm hb hs
    · have := pcheck_same t0 t1 t2 w hm hb ((sameBx_iff _ _).1 hs).symm
      simpa using this
  · have he : (errB d0 d1 d2 b != 0) = true := by rcases he with h | h <;> rw [h] <;> rfl
    rw [errP_err t0 t1 t2 he]
    exact pcheck_err t0 t1 t2 w he

set_option maxRecDepth 100000 in
set_option maxHeartbeats 2000000 in
theorem firstP_calls (b : Bx) (k : Fin 3) (w : World) : Calls Tryz.prog 141 #[B6 b, I (axI k)] w fun e W' => e = .returned (B6 (upB b 1 k)) ∧ Below w.heap.size w W' := by
  rcases fin3 k with rfl | rfl | rfl
  · simp only [axI, upB]
    go_enter Tryz.func141, Tryz.ntmps141
    go_wp2
    obtain ⟨W, hW, hB0, b0, b1⟩ := two_start w #[I b.x, I b.y, I b.z, I 1, I b.b, I b.c] #[I b.x, I b.y, I b.z, I 1, I b.b, I b.c] 38 38
    rw [hW]
    obtain ⟨⟨j0, j1, j2, j3, j4, j5⟩, _⟩ := b1.row6
    exact bodyPost_ret (v := .agg #[I b.x, I b.y, I b.z, I 1, I b.b, I b.c]) (by simp [results, Tryz.f141, go_sem, j0, j1, j2, j3, j4, j5]) rfl ⟨rfl, hB0⟩
  · simp only [axI, upB]
    go_enter Tryz.func141, Tryz.ntmps141
    go_wp2
    obtain ⟨W, hW, hB0, b0, b1⟩ := two_start w #[I b.x, I b.y, I b.z, I b.a, I 1, I b.c] #[I b.x, I b.y, I b.z, I b.a, I 1, I b.c] 38 38
    rw [hW]
    obtain ⟨⟨j0, j1, j2, j3, j4, j5⟩, _⟩ := b1.row6
    exact bodyPost_ret (v := .agg #[I b.x, I b.y, I b.z, I b.a, I 1, I b.c]) (by simp [results, Tryz.f141, go_sem, j0, j1, j2, j3, j4, j5]) rfl ⟨rfl, hB0⟩
  · simp only [axI, upB]
    go_enter Tryz.func141, Tryz.ntmps141
    go_wp2
    obtain ⟨W, hW, hB0, b0, b1⟩ := two_start w #[I b.x, I b.y, I b.z, I b.a, I b.b, I 1] #[I b.x, I b.y, I b.z, I b.a, I b.b, I 1] 38 38
    rw [hW]
    obtain ⟨⟨j0, j1, j2, j3, j4, j5⟩, _⟩ := b1.row6
    exact bodyPost_ret (v := .agg #[I b.x, I b.y, I b.z, I b.a, I b.b, I 1]) (by simp [results, Tryz.f141, go_sem, j0, j1, j2, j3, j4, j5]) rfl ⟨rfl, hB0⟩

end Go.Proofs.YtfbegeopiakccaaGreatDoor
