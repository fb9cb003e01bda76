/-
  Plain arithmetic of spans and calendars, ahead of stages 7 and 8: when spans meet; calendars with a slot, without an owner's, cut; who has a moment; the first moment from which something is free. No program is named here.
-/
import Derived.Test.YtldcagjnngkabaaGreatDoorPart1
namespace Go.Proofs.YtldcagjnngkabaaGreatDoor
open Go.RowKit

/-- A slot: from, to, owner. -/
abbrev Slt := Int × Int × Int
def maySp (f t : Int) : Prop := 0 ≤ f ∧ f < t ∧ t ≤ 1099511627776
def maySpB (f t : Int) : Bool := decide (0 ≤ f) && (decide (f < t) && decide (t ≤ 1099511627776))
theorem maySpB_iff (f t : Int) : maySpB f t = true ↔ maySp f t := by simp [maySpB, maySp]
def maySl (s : Slt) : Prop := maySp s.1 s.2.1 ∧ (1 ≤ s.2.2 ∧ s.2.2 ≤ 1099511627776)
/-- A moment is one of a span's. -/
def inT (f t a : Int) : Bool := decide (f ≤ a) && decide (a < t)
theorem inT_iff {f t a : Int} : inT f t a = true ↔ f ≤ a ∧ a < t := by simp [inT]
def meetsT (f t f' t' : Int) : Bool := inT f t f' || inT f' t' f
theorem meetsT_iff {f t f' t' : Int} (h : f < t) (h' : f' < t') : meetsT f t f' t' = true ↔ f < t' ∧ f' < t := by
  simp only [meetsT, Bool.or_eq_true, inT_iff]
  omega
theorem meetsT_mom {f t f' t' : Int} (h : f < t) (h' : f' < t') : meetsT f t f' t' = true ↔ ∃ a, (f ≤ a ∧ a < t) ∧ (f' ≤ a ∧ a < t') := by
  rw [meetsT_iff h h']
  constructor
  · rintro ⟨h1, h2⟩
    by_cases hf : f ≤ f'
    · exact ⟨f', by omega, by omega⟩
    · exact ⟨f, by omega, by omega⟩
  · rintro ⟨a, h1, h2⟩; omega
theorem meetsT_no {f t f' t' : Int} (h : f < t) (h' : f' < t') : meetsT f t f' t' = false ↔ t' ≤ f ∨ t ≤ f' := by
  cases e : meetsT f t f' t'
  · have : ¬ (f < t' ∧ f' < t) := fun hh => by rw [(meetsT_iff h h').2 hh] at e; cases e
    exact ⟨fun _ => (by omega), fun _ => rfl⟩
  · have := (meetsT_iff h h').1 e
    exact ⟨fun x => (by cases x), fun x => (by omega)⟩

/-- Slots that rise: none ends behind a later one's beginning. -/
def riseC (c : List Slt) : Prop := c.Pairwise fun a b => a.2.1 ≤ b.1
def fineC (c : List Slt) : Prop := ∀ s ∈ c, s.1 < s.2.1
def mayC (c : List Slt) : Prop := (∀ s ∈ c, maySl s) ∧ riseC c ∧ c.length ≤ 4096
theorem mayC_fine {c : List Slt} (h : mayC c) : fineC c := fun s hs => (h.1 s hs).1.2.1
/-- Of those that stand next to each other it is enough. -/
theorem rise_next : ∀ {c : List Slt}, fineC c → (∀ i, i + 1 < c.length → (c.getD i (0, 0, 0)).2.1 ≤ (c.getD (i + 1) (0, 0, 0)).1) → riseC c
  | [], _, _ => List.Pairwise.nil
  | [_], _, _ => List.pairwise_singleton _ _
  | a :: b :: r, hf, h => by
    have ih : riseC (b :: r) := rise_next (fun s hs => hf s (by simp [hs])) (fun i hi => by have := h (i + 1) (by simp at hi ⊢; omega); simpa using this)
    refine List.pairwise_cons.2 ⟨fun x hx => ?_, ih⟩
    have h0 : a.2.1 ≤ b.1 := by simpa using h 0 (by simp)
    rcases List.mem_cons.1 hx with rfl | hx
    · exact h0
    · have h1 := (List.pairwise_cons.1 ih).1 x hx
      have h2 := hf b (by simp)
      omega
theorem rise_at {c : List Slt} (h : riseC c) (i : Nat) (hi : i + 1 < c.length) : (c.getD i (0, 0, 0)).2.1 ≤ (c.getD (i + 1) (0, 0, 0)).1 := by
  have := List.pairwise_iff_getElem.1 h i (i + 1) (by omega) hi (by omega)
  rw [List.getD_eq_getElem?_getD, List.getD_eq_getElem?_getD, List.getElem?_eq_getElem hi, List.getElem?_eq_getElem (by omega : i < _)]
  exact this

/-- No two slots have a moment in common. -/
theorem one_slot {c : List Slt} (hr : riseC c) (hf : fineC c) {x y : Slt} (hx : x ∈ c) (hy : y ∈ c) {a : Int} (ha : x.1 ≤ a ∧ a < x.2.1) (hb : y.1 ≤ a ∧ a < y.2.1) : x = y := by
  induction c with
  | nil => cases hx
  | cons z r ih =>
    obtain ⟨h1, h2⟩ := List.pairwise_cons.1 hr
    rcases List.mem_cons.1 hx with ex | hx' <;> rcases List.mem_cons.1 hy with ey | hy'
    · rw [ex, ey]
    · have := h1 y hy'
      rw [ex] at ha
      omega
    · have := h1 x hx'
      rw [ey] at hb
      omega
    · exact ih h2 (fun s hs => hf s (by simp [hs])) hx' hy'

/-- Whose a moment is. -/
def atC (c : List Slt) (a : Int) : Option Int := (c.find? fun s => inT s.1 s.2.1 a).map fun s => s.2.2
theorem atC_some {c : List Slt} (hr : riseC c) (hf : fineC c) {a o : Int} : atC c a = some o ↔ ∃ s ∈ c, (s.1 ≤ a ∧ a < s.2.1) ∧ s.2.2 = o := by
  unfold atC
  rw [Option.map_eq_some_iff]
  constructor
  · rintro ⟨s, hs, rfl⟩
    exact ⟨s, List.mem_of_find?_eq_some hs, inT_iff.1 (List.find?_some (p := fun s : Slt => inT s.1 s.2.1 a) hs), rfl⟩
  · rintro ⟨s, hs, ha, rfl⟩
    cases e : c.find? fun s => inT s.1 s.2.1 a with
    | none =>
      have := List.find?_eq_none.1 e s hs
      exact absurd (inT_iff.2 ha) this
    | some s' =>
      have h2 := inT_iff.1 (List.find?_some (p := fun s : Slt => inT s.1 s.2.1 a) e)
      have := one_slot hr hf (List.mem_of_find?_eq_some e) hs h2 ha
      exact ⟨s', rfl, by rw [this]⟩
theorem atC_none {c : List Slt} {a : Int} : atC c a = none ↔ ∀ s ∈ c, ¬ (s.1 ≤ a ∧ a < s.2.1) := by
  unfold atC
  rw [Option.map_eq_none_iff, List.find?_eq_none]
  exact ⟨fun h s hs hh => h s hs (inT_iff.2 hh), fun h s hs hh => h s hs (inT_iff.1 hh)⟩

/-- All moments of a span are nobody's. -/
def clearC (c : List Slt) (f t : Int) : Bool := c.all fun s => !meetsT s.1 s.2.1 f t
theorem clearC_iff {c : List Slt} (hf : fineC c) {f t : Int} (h : f < t) : clearC c f t = true ↔ ∀ s ∈ c, t ≤ s.1 ∨ s.2.1 ≤ f := by
  unfold clearC
  rw [List.all_eq_true]
  constructor
  · intro hc s hs
    have := hc s hs
    exact (meetsT_no (hf s hs) h).1 (by simpa using this)
  · intro hc s hs
    rw [(meetsT_no (hf s hs) h).2 (hc s hs)]
    rfl
theorem clearC_at {c : List Slt} (hf : fineC c) {f t : Int} (h : f < t) : clearC c f t = true ↔ ∀ a, f ≤ a ∧ a < t → atC c a = none := by
  rw [clearC_iff hf h]
  constructor
  · intro hc a ha
    refine atC_none.2 fun s hs hh => ?_
    have := hc s hs
    omega
  · intro hc s hs
    have h1 := hf s hs
    by_cases hm : s.1 < t ∧ f < s.2.1
    · exfalso
      by_cases hl : f ≤ s.1
      · exact atC_none.1 (hc s.1 (by omega)) s hs (by omega)
      · exact atC_none.1 (hc f (by omega)) s hs (by omega)
    · omega

/-- A calendar with a slot. -/
def withC (s : Slt) : List Slt → List Slt
  | [] => [s]
  | x :: r => if s.1 < x.1 then s :: x :: r else x :: withC s r
theorem withC_mem {s x : Slt} : ∀ {c : List Slt}, x ∈ withC s c ↔ x = s ∨ x ∈ c
  | [] => by simp [withC]
  | y :: r => by
    unfold withC
    split
    · simp
    · rw [List.mem_cons, withC_mem, List.mem_cons]
      constructor
      · rintro (h | h | h)
        · exact .inr (.inl h)
        · exact .inl h
        · exact .inr (.inr h)
      · rintro (h | h | h)
        · exact .inr (.inl h)
        · exact .inl h
        · exact .inr (.inr h)
theorem withC_len (s : Slt) : ∀ c : List Slt, (withC s c).length = c.length + 1
  | [] => rfl
  | y :: r => by
    unfold withC
    split
    · rfl
    · simp [withC_len s r]
theorem withC_rise {s : Slt} (hs : s.1 < s.2.1) : ∀ {c : List Slt}, riseC c → fineC c → (∀ x ∈ c, s.2.1 ≤ x.1 ∨ x.2.1 ≤ s.1) → riseC (withC s c)
  | [], _, _, _ => List.pairwise_singleton _ _
  | y :: r, hr, hf, hc => by
    obtain ⟨h1, h2⟩ := List.pairwise_cons.1 hr
    have hy := hc y (by simp)
    have hfy := hf y (by simp)
    unfold withC
    split
    · rename_i hlt
      refine List.pairwise_cons.2 ⟨fun x hx => ?_, hr⟩
      rcases List.mem_cons.1 hx with rfl | hx
      · omega
      · have := h1 x hx
        omega
    · rename_i hlt
      refine List.pairwise_cons.2 ⟨fun x hx => ?_, withC_rise hs h2 (fun z hz => hf z (by simp [hz])) (fun z hz => hc z (by simp [hz]))⟩
      rcases withC_mem.1 hx with rfl | hx
      · omega
      · exact h1 x hx
theorem withC_may {c : List Slt} {s : Slt} (h : mayC c) (hs : maySl s) (hc : clearC c s.1 s.2.1 = true) (hl : c.length < 4096) : mayC (withC s c) := by
  have hf := mayC_fine h
  refine ⟨fun x hx => ?_, withC_rise hs.1.2.1 h.2.1 hf ((clearC_iff hf hs.1.2.1).1 hc), by rw [withC_len]; omega⟩
  rcases withC_mem.1 hx with rfl | hx
  · exact hs
  · exact h.1 x hx
/-- What is put is its owner's, and no other moment turns. -/
theorem withC_in {c : List Slt} {s : Slt} (h : mayC c) (hs : maySl s) (hc : clearC c s.1 s.2.1 = true) (hl : c.length < 4096) {a : Int} (ha : s.1 ≤ a ∧ a < s.2.1) : atC (withC s c) a = some s.2.2 ∧ atC c a = none := by
  have hm := withC_may h hs hc hl
  exact ⟨(atC_some hm.2.1 (mayC_fine hm)).2 ⟨s, withC_mem.2 (.inl rfl), ha, rfl⟩, (clearC_at (mayC_fine h) hs.1.2.1).1 hc a ha⟩
theorem withC_out {c : List Slt} {s : Slt} (h : mayC c) (hs : maySl s) (hc : clearC c s.1 s.2.1 = true) (hl : c.length < 4096) {a : Int} (ha : ¬ (s.1 ≤ a ∧ a < s.2.1)) : atC (withC s c) a = atC c a := by
  have hm := withC_may h hs hc hl
  apply Option.ext
  intro o
  rw [atC_some hm.2.1 (mayC_fine hm), atC_some h.2.1 (mayC_fine h)]
  constructor
  · rintro ⟨x, hx, h1, h2⟩
    rcases withC_mem.1 hx with rfl | hx
    · exact absurd h1 ha
    · exact ⟨x, hx, h1, h2⟩
  · rintro ⟨x, hx, h1, h2⟩
    exact ⟨x, withC_mem.2 (.inr hx), h1, h2⟩

/-- A calendar without an owner's slots. -/
def lessC (c : List Slt) (o : Int) : List Slt := c.filter fun s => decide (s.2.2 ≠ o)
theorem less_with {s : Slt} : ∀ {c : List Slt}, lessC (withC s c) s.2.2 = lessC c s.2.2
  | [] => by simp [withC, lessC]
  | y :: r => by
    unfold withC
    split
    · simp [lessC]
    · have ih := less_with (s := s) (c := r)
      unfold lessC at ih ⊢
      rw [List.filter_cons, List.filter_cons, ih]
theorem less_all {c : List Slt} {o : Int} (h : (lessC c o).length = c.length) : lessC c o = c :=
  List.filter_eq_self.2 (List.length_filter_eq_length_iff.1 h)
theorem lessC_may {c : List Slt} (h : mayC c) (o : Int) : mayC (lessC c o) :=
  ⟨fun s hs => h.1 s (List.mem_filter.1 hs).1, h.2.1.filter _, Nat.le_trans (List.length_filter_le _ _) h.2.2⟩

theorem fm_congr {α β : Type} {f g : α → Option β} : ∀ {l : List α}, (∀ a ∈ l, f a = g a) → l.filterMap f = l.filterMap g
  | [], _ => rfl
  | a :: l, h => by rw [List.filterMap_cons, List.filterMap_cons, h a (by simp), fm_congr fun b hb => h b (by simp [hb])]
/-- A slot, its owner's moments ahead of one alone. -/
def cutS (o to : Int) (s : Slt) : Option Slt := if s.2.2 = o ∧ to ≤ s.1 then none else if s.2.2 = o ∧ to < s.2.1 then some (s.1, to, s.2.2) else some s
def endedC (c : List Slt) (o to : Int) : List Slt := c.filterMap (cutS o to)
theorem cutS_some {o to : Int} {s x : Slt} (h : cutS o to s = some x) : x.1 = s.1 ∧ x.2.2 = s.2.2 ∧ x.2.1 ≤ s.2.1 ∧ ((s.2.2 ≠ o ∧ x = s) ∨ (s.2.2 = o ∧ s.1 < to ∧ ((s.2.1 ≤ to ∧ x = s) ∨ (to < s.2.1 ∧ x.2.1 = to)))) := by
  unfold cutS at h
  split at h
  · cases h
  · rename_i h1
    split at h
    · rename_i h2
      cases h
      exact ⟨rfl, rfl, by show to ≤ s.2.1; omega, .inr ⟨h2.1, by omega, .inr ⟨h2.2, rfl⟩⟩⟩
    · rename_i h2
      cases h
      refine ⟨rfl, rfl, Int.le_refl _, ?_⟩
      by_cases ho : s.2.2 = o
      · exact .inr ⟨ho, by omega, .inl ⟨by omega, rfl⟩⟩
      · exact .inl ⟨ho, rfl⟩
theorem cutS_fine {o to : Int} {s x : Slt} (h : cutS o to s = some x) (hs : s.1 < s.2.1) : x.1 < x.2.1 := by
  obtain ⟨h1, _, _, h4⟩ := cutS_some h
  rcases h4 with ⟨_, rfl⟩ | ⟨_, hl, ⟨_, rfl⟩ | ⟨_, e⟩⟩
  · exact hs
  · exact hs
  · omega
theorem endedC_mem {c : List Slt} {o to : Int} {x : Slt} : x ∈ endedC c o to ↔ ∃ s ∈ c, cutS o to s = some x := by
  unfold endedC
  rw [List.mem_filterMap]
theorem endedC_may {c : List Slt} (h : mayC c) (o to : Int) : mayC (endedC c o to) := by
  refine ⟨fun x hx => ?_, ?_, Nat.le_trans (List.length_filterMap_le _ _) h.2.2⟩
  · obtain ⟨s, hs, e⟩ := endedC_mem.1 hx
    obtain ⟨h1, h2, h3, _⟩ := cutS_some e
    have hm := h.1 s hs
    have hf := cutS_fine e hm.1.2.1
    unfold maySl maySp at hm ⊢
    omega
  · unfold riseC endedC
    rw [List.pairwise_filterMap]
    refine h.2.1.imp fun {a b} hab => ?_
    intro x hx y hy
    obtain ⟨_, _, h3, _⟩ := cutS_some hx
    obtain ⟨h1, _⟩ := cutS_some hy
    omega
/-- What is cut has the same owner at each moment ahead, and none of theirs from there on. -/
theorem endedC_at {c : List Slt} (h : mayC c) (o to a : Int) : atC (endedC c o to) a = if atC c a = some o ∧ to ≤ a then none else atC c a := by
  have hm := endedC_may h o to
  have S1 := fun x => atC_some hm.2.1 (mayC_fine hm) (a := a) (o := x)
  have S2 := fun x => atC_some h.2.1 (mayC_fine h) (a := a) (o := x)
  split
  · rename_i hh
    obtain ⟨s, hs, ha, ho⟩ := (S2 o).1 hh.1
    refine atC_none.2 fun x hx hxa => ?_
    obtain ⟨s', hs', e⟩ := endedC_mem.1 hx
    obtain ⟨h1, h2, h3, h4⟩ := cutS_some e
    have := one_slot h.2.1 (mayC_fine h) hs' hs (a := a) (by omega) ha
    subst this
    rcases h4 with ⟨hn, _⟩ | ⟨_, hl, ⟨ht, rfl⟩ | ⟨ht, et⟩⟩
    · exact hn ho
    · omega
    · omega
  · rename_i hh
    apply Option.ext
    intro p
    rw [S1, S2]
    constructor
    · rintro ⟨x, hx, hxa, hp⟩
      obtain ⟨s, hs, e⟩ := endedC_mem.1 hx
      obtain ⟨h1, h2, h3, h4⟩ := cutS_some e
      exact ⟨s, hs, by omega, by omega⟩
    · rintro ⟨s, hs, ha, rfl⟩
      have hno : ¬ (s.2.2 = o ∧ to ≤ a) := fun hx => hh ⟨(S2 o).2 ⟨s, hs, ha, hx.1⟩, hx.2⟩
      cases e : cutS o to s with
      | none =>
        exfalso
        unfold cutS at e
        split at e
        · rename_i h1; omega
        · split at e <;> cases e
      | some x =>
        obtain ⟨h1, h2, h3, h4⟩ := cutS_some e
        refine ⟨x, endedC_mem.2 ⟨s, hs, e⟩, ?_, h2⟩
        rcases h4 with ⟨_, rfl⟩ | ⟨ho, hl, ⟨_, rfl⟩ | ⟨_, et⟩⟩
        · exact ha
        · exact ha
        · omega
theorem endedC_twice {c : List Slt} (o to more : Int) : endedC (endedC c o to) o more = endedC c o (if to ≤ more then to else more) := by
  obtain ⟨m, hm⟩ : ∃ m, m = if to ≤ more then to else more := ⟨_, rfl⟩
  rw [← hm]
  have hm : (to ≤ more ∧ m = to) ∨ (more < to ∧ m = more) := by
    by_cases h : to ≤ more
    · rw [if_pos h] at hm; exact .inl ⟨h, hm⟩
    · rw [if_neg h] at hm; exact .inr ⟨by omega, hm⟩
  unfold endedC
  rw [List.filterMap_filterMap]
  refine fm_congr fun s _ => ?_
  by_cases ho : s.2.2 = o
  · by_cases h1 : to ≤ s.1
    · have e1 : cutS o to s = none := if_pos ⟨ho, h1⟩
      have e2 : cutS o m s = none := if_pos ⟨ho, by omega⟩
      rw [e1, e2]
      rfl
    · by_cases h2 : to < s.2.1
      · have e1 : cutS o to s = some (s.1, to, s.2.2) := by unfold cutS; rw [if_neg (fun h => h1 h.2), if_pos ⟨ho, h2⟩]
        rw [e1, Option.bind_some]
        by_cases h3 : more ≤ s.1
        · have e2 : cutS o m s = none := if_pos ⟨ho, by omega⟩
          have e3 : cutS o more (s.1, to, s.2.2) = none := if_pos ⟨ho, h3⟩
          rw [e2, e3]
        · have e2 : cutS o m s = some (s.1, m, s.2.2) := by unfold cutS; rw [if_neg (fun h => by omega), if_pos ⟨ho, by omega⟩]
          rw [e2]
          unfold cutS
          rw [if_neg (fun h => h3 h.2)]
          rcases hm with ⟨h4, rfl⟩ | ⟨h4, rfl⟩
          · rw [if_neg (fun h => by have := h.2; dsimp only at this; omega)]
          · rw [if_pos ⟨ho, h4⟩]
      · have e1 : cutS o to s = some s := by unfold cutS; rw [if_neg (fun h => h1 h.2), if_neg (fun h => h2 h.2)]
        rw [e1, Option.bind_some]
        by_cases h3 : more ≤ s.1
        · have eL : cutS o more s = none := if_pos ⟨ho, h3⟩
          have eR : cutS o m s = none := if_pos ⟨ho, by omega⟩
          rw [eL, eR]
        · by_cases h4 : more < s.2.1
          · have e : m = more := by omega
            rw [e]
          · have eL : cutS o more s = some s := by unfold cutS; rw [if_neg (fun h => h3 h.2), if_neg (fun h => h4 h.2)]
            have eR : cutS o m s = some s := by unfold cutS; rw [if_neg (fun h => by omega), if_neg (fun h => by omega)]
            rw [eL, eR]
  · have e : ∀ x, cutS o x s = some s := fun x => by unfold cutS; rw [if_neg (fun h => ho h.1), if_neg (fun h => ho h.1)]
    rw [e, e, Option.bind_some, e]
theorem endedC_max {c : List Slt} (h : mayC c) (o : Int) {to : Int} (ht : 1099511627776 ≤ to) : endedC c o to = c := by
  unfold endedC
  have e : c.filterMap (cutS o to) = c.filterMap some := fm_congr fun s hs => by
    have hm := (h.1 s hs).1
    unfold maySp at hm
    unfold cutS
    rw [if_neg (fun hh => by omega), if_neg (fun hh => by omega)]
  rw [e, List.filterMap_some]
theorem endedC_zero {c : List Slt} (h : mayC c) (o : Int) {to : Int} (ht : to ≤ 0) : endedC c o to = lessC c o := by
  unfold endedC lessC
  rw [← List.filterMap_eq_filter]
  refine fm_congr fun s hs => ?_
  have hm := (h.1 s hs).1
  unfold maySp at hm
  unfold cutS
  by_cases ho : s.2.2 = o
  · rw [if_pos ⟨ho, by omega⟩]
    simp [Option.guard, ho]
  · rw [if_neg (fun h => ho h.1), if_neg (fun h => ho h.1)]
    simp [Option.guard, ho]

/-- A moment from which it may be: the one that is asked, or a slot's end behind it. -/
def candC (c : List Slt) (a n : Int) : Prop := a ≤ n ∧ (n = a ∨ ∃ s ∈ c, n = s.2.1)
/-- The last of them up to a moment. -/
theorem cand_last (a b : Int) (hab : a ≤ b) : ∀ c : List Slt, ∃ n, candC c a n ∧ n ≤ b ∧ ∀ s ∈ c, s.2.1 ≤ b → s.2.1 ≤ n
  | [] => ⟨a, ⟨Int.le_refl _, .inl rfl⟩, hab, fun s hs => by cases hs⟩
  | x :: r => by
    obtain ⟨n, ⟨h1, h2⟩, h3, h4⟩ := cand_last a b hab r
    by_cases hx : x.2.1 ≤ b ∧ n < x.2.1
    · refine ⟨x.2.1, ⟨by omega, .inr ⟨x, by simp, rfl⟩⟩, hx.1, fun s hs hb => ?_⟩
      rcases List.mem_cons.1 hs with rfl | hs
      · exact Int.le_refl _
      · have := h4 s hs hb
        omega
    · refine ⟨n, ⟨h1, ?_⟩, h3, fun s hs hb => ?_⟩
      · rcases h2 with h2 | ⟨s, hs, h2⟩
        · exact .inl h2
        · exact .inr ⟨s, by simp [hs], h2⟩
      · rcases List.mem_cons.1 hs with rfl | hs
        · omega
        · exact h4 s hs hb
/-- Where some moment is free for so long, one of them is, that is no later. -/
theorem cand_free {c : List Slt} (hf : fineC c) {a b long : Int} (hl : 1 ≤ long) (hab : a ≤ b) (hc : clearC c b (b + long) = true) : ∃ n, candC c a n ∧ n ≤ b ∧ clearC c n (n + long) = true := by
  obtain ⟨n, h1, h2, h3⟩ := cand_last a b hab c
  refine ⟨n, h1, h2, (clearC_iff hf (by omega)).2 fun s hs => ?_⟩
  have h4 := (clearC_iff hf (by omega)).1 hc s hs
  have h5 := h3 s hs
  omega

/-- The least of some numbers that serve, as it is looked for: one behind the other. -/
def leastN (P : Int → Bool) (b : Option Int) (m : Int) : Option Int := if P m = true then (match b with | none => some m | some x => if m < x then some m else some x) else b
theorem least_some {P : Int → Bool} {m n : Int} : ∀ {b : Option Int}, leastN P b m = some n → (b = some n ∨ (n = m ∧ P m = true)) ∧ (∀ x, b = some x → n ≤ x) ∧ (P m = true → n ≤ m)
  | none, h => by
    unfold leastN at h
    split at h
    · rename_i hp
      cases h
      exact ⟨.inr ⟨rfl, hp⟩, fun x hx => (by cases hx), fun _ => Int.le_refl _⟩
    · cases h
  | some y, h => by
    unfold leastN at h
    split at h
    · rename_i hp
      dsimp only at h
      split at h
      · cases h
        exact ⟨.inr ⟨rfl, hp⟩, fun x hx => by cases hx; omega, fun _ => Int.le_refl _⟩
      · cases h
        exact ⟨.inl rfl, fun x hx => by cases hx; exact Int.le_refl _, fun _ => by omega⟩
    · rename_i hp
      cases h
      exact ⟨.inl rfl, fun x hx => by cases hx; exact Int.le_refl _, fun h => absurd h hp⟩
theorem least_none {P : Int → Bool} {m : Int} : ∀ {b : Option Int}, leastN P b m = none ↔ b = none ∧ P m = false
  | none => by
    unfold leastN
    cases hp : P m <;> simp
  | some y => by
    unfold leastN
    cases hp : P m
    · simp
    · simp only [if_true]
      split <;> simp
theorem fold_least {P : Int → Bool} : ∀ (L : List Int) (b : Option Int), (L.foldl (leastN P) b = none ↔ b = none ∧ ∀ m ∈ L, P m = false) ∧
    (∀ n, L.foldl (leastN P) b = some n → (b = some n ∨ (n ∈ L ∧ P n = true)) ∧ (∀ x, b = some x → n ≤ x) ∧ ∀ m ∈ L, P m = true → n ≤ m)
  | [], b => ⟨by simp, fun n h => ⟨.inl h, fun x hx => by have : b = some n := h; rw [this] at hx; cases hx; exact Int.le_refl _, fun m hm => by cases hm⟩⟩
  | m :: L, b => by
    obtain ⟨h1, h2⟩ := fold_least L (leastN P b m)
    rw [List.foldl_cons]
    refine ⟨?_, fun n hn => ?_⟩
    · rw [h1, least_none]
      constructor
      · rintro ⟨⟨a, b⟩, c⟩
        refine ⟨a, fun x hx => ?_⟩
        rcases List.mem_cons.1 hx with rfl | hx
        · exact b
        · exact c x hx
      · rintro ⟨a, b⟩
        exact ⟨⟨a, b m (by simp)⟩, fun x hx => b x (by simp [hx])⟩
    · obtain ⟨k1, k2, k3⟩ := h2 n hn
      refine ⟨?_, ?_, ?_⟩
      · rcases k1 with k1 | ⟨k1, k4⟩
        · rcases (least_some k1).1 with e | ⟨e, hp⟩
          · exact .inl e
          · exact .inr ⟨by rw [e]; simp, by rw [e]; exact hp⟩
        · exact .inr ⟨by simp [k1], k4⟩
      · intro x hx
        cases e : leastN P b m with
        | none => rw [(least_none.1 e).1] at hx; cases hx
        | some y =>
          have := k2 y e
          have := (least_some e).2.1 x hx
          omega
      · intro x hx hp
        rcases List.mem_cons.1 hx with rfl | hx
        · cases e : leastN P b x with
          | none => rw [(least_none.1 e).2] at hp; cases hp
          | some y =>
            have := k2 y e
            have := (least_some e).2.2 hp
            omega
        · exact k3 x hx hp

/-- A moment serves: it is not ahead of the one that is asked, and from it on all is free for so long. -/
def okF (c : List Slt) (a long n : Int) : Bool := decide (a ≤ n) && (decide (long ≤ 1099511627776 - n) && clearC c n (n + long))
def nextC (c : List Slt) (a long : Int) : Option Int := (a :: c.map fun s => s.2.1).foldl (leastN (okF c a long)) none
theorem cand_mem {c : List Slt} {a n : Int} (h : candC c a n) : n ∈ a :: c.map fun s => s.2.1 := by
  rcases h.2 with rfl | ⟨s, hs, rfl⟩
  · simp
  · exact List.mem_cons_of_mem _ (List.mem_map.2 ⟨s, hs, rfl⟩)
/-- What is told serves, and no moment ahead of it does. -/
theorem nextC_some {c : List Slt} (hf : fineC c) {a long n : Int} (hl : 1 ≤ long) (h : nextC c a long = some n) : okF c a long n = true ∧ ∀ m, okF c a long m = true → n ≤ m := by
  obtain ⟨h1, _, h3⟩ := (fold_least _ _).2 n h
  have hok : okF c a long n = true := by
    rcases h1 with h1 | ⟨_, h1⟩
    · cases h1
    · exact h1
  refine ⟨hok, fun m hm => ?_⟩
  unfold okF at hm
  simp only [Bool.and_eq_true, decide_eq_true_eq] at hm
  obtain ⟨k, hk1, hk2, hk3⟩ := cand_free hf hl hm.1 hm.2.2
  have := h3 k (cand_mem hk1) (by
    unfold okF
    simp only [Bool.and_eq_true, decide_eq_true_eq]
    exact ⟨hk1.1, by omega, hk3⟩)
  omega
/-- Where none is told, none serves. -/
theorem nextC_none {c : List Slt} (hf : fineC c) {a long : Int} (hl : 1 ≤ long) (h : nextC c a long = none) (m : Int) : okF c a long m = false := by
  have h1 := ((fold_least _ _).1.1 h).2
  cases e : okF c a long m
  · rfl
  · unfold okF at e
    simp only [Bool.and_eq_true, decide_eq_true_eq] at e
    obtain ⟨k, hk1, hk2, hk3⟩ := cand_free hf hl e.1 e.2.2
    have := h1 k (cand_mem hk1)
    unfold okF at this
    rw [show decide (a ≤ k) = true from decide_eq_true hk1.1, show decide (long ≤ 1099511627776 - k) = true from decide_eq_true (by omega), hk3] at this
    cases this

end Go.Proofs.YtldcagjnngkabaaGreatDoor

/-
  Plain arithmetic of moments and spans, ahead of stage 7: sums that stop, what two spans have in common. No program is named here.
-/
namespace Go.Proofs.YtldcagjnngkabaaGreatDoor
open Go.RowKit

/-- A number brought within. -/
def brT (n : Int) : Int := if n < 0 then 0 else if 1099511627776 < n then 1099511627776 else n
theorem brT_bd (n : Int) : 0 ≤ brT n ∧ brT n ≤ 1099511627776 := by unfold brT; split <;> (try split) <;> omega
theorem brT_in {n : Int} (h : 0 ≤ n ∧ n ≤ 1099511627776) : brT n = n := by unfold brT; rw [if_neg (by omega), if_neg (by omega)]
theorem brT_le {m n : Int} (h : m ≤ n) : brT m ≤ brT n := by unfold brT; split <;> split <;> (try split) <;> (try split) <;> omega
def plusT (a b : Int) : Int := brT (brT a + brT b)
theorem plusT_bd (a b : Int) : 0 ≤ plusT a b ∧ plusT a b ≤ 1099511627776 := brT_bd _
theorem plusT_comm (a b : Int) : plusT a b = plusT b a := by unfold plusT; rw [Int.add_comm]
theorem brT_min {n : Int} (h : 0 ≤ n) : brT n = if n ≤ 1099511627776 then n else 1099511627776 := by unfold brT; rw [if_neg (by omega)]; split <;> split <;> omega
theorem plusT_assoc (a b c : Int) : plusT (plusT a b) c = plusT a (plusT b c) := by
  unfold plusT
  have ha := brT_bd a
  have hb := brT_bd b
  have hc := brT_bd c
  rw [brT_in (brT_bd (brT a + brT b)), brT_in (brT_bd (brT b + brT c))]
  generalize brT a = x at *
  generalize brT b = y at *
  generalize brT c = z at *
  rw [brT_min (n := x + y) (by omega), brT_min (n := y + z) (by omega)]
  split <;> split <;> rw [brT_min (by omega), brT_min (by omega)] <;> split <;> split <;> omega
theorem plusT_le {a b c : Int} (h : b ≤ c) : plusT a b ≤ plusT a c := brT_le (by have := brT_le h; omega)
theorem plusT_up (a b : Int) : plusT a 0 ≤ plusT a b := brT_le (by have := brT_bd b; have e : brT 0 = 0 := brT_in (by omega); omega)
theorem plusT_more (a b c : Int) : plusT a b ≤ plusT (plusT a b) c := by
  have h := plusT_bd a b
  have hc := brT_bd c
  generalize plusT a b = n at *
  unfold plusT
  rw [brT_in h]
  have := brT_le (show n ≤ n + brT c by omega)
  rwa [brT_in h] at this

/-- All of one span's moments are the other's. -/
def wiT (f t f' t' : Int) : Bool := inT f' t' f && inT f' t' (t - 1)
theorem wiT_iff {f t f' t' : Int} (h : f < t) : wiT f t f' t' = true ↔ f' ≤ f ∧ t ≤ t' := by
  simp only [wiT, Bool.and_eq_true, inT_iff]
  omega
def maxT (a b : Int) : Int := if a < b then b else a
def minT (a b : Int) : Int := if b < a then b else a
/-- What two spans that meet have in common is a span, which lies in both; and it is the greatest such. -/
theorem bothT_may {f t f' t' : Int} (h : maySp f t) (h' : maySp f' t') (hm : meetsT f t f' t' = true) : maySp (maxT f f') (minT t t') := by
  have := (meetsT_iff h.2.1 h'.2.1).1 hm
  unfold maySp at *
  unfold maxT minT
  split <;> split <;> omega
theorem bothT_in {f t f' t' : Int} (h : maySp f t) (h' : maySp f' t') (hm : meetsT f t f' t' = true) : wiT (maxT f f') (minT t t') f t = true ∧ wiT (maxT f f') (minT t t') f' t' = true := by
  have hb := bothT_may h h' hm
  rw [wiT_iff hb.2.1, wiT_iff hb.2.1]
  unfold maxT minT
  split <;> split <;> omega
theorem bothT_most {f t f' t' g u : Int} (hg : g < u) : wiT g u (maxT f f') (minT t t') = (wiT g u f t && wiT g u f' t') := by
  rw [Bool.eq_iff_iff, Bool.and_eq_true, wiT_iff hg, wiT_iff hg, wiT_iff hg]
  unfold maxT minT
  split <;> split <;> omega
theorem bothT_none {f t f' t' g u : Int} (hg : g < u) (h : maySp f t) (h' : maySp f' t') (hm : meetsT f t f' t' = false) : ¬ (wiT g u f t = true ∧ wiT g u f' t' = true) := by
  have := (meetsT_no h.2.1 h'.2.1).1 hm
  rw [wiT_iff hg, wiT_iff hg]
  omega
theorem bothT_same {f t f' t' : Int} (h : maySp f t) (h' : maySp f' t') : wiT f t f' t' = (meetsT f t f' t' && (decide (maxT f f' = f) && decide (minT t t' = t))) := by
  rw [Bool.eq_iff_iff, Bool.and_eq_true, Bool.and_eq_true, wiT_iff h.2.1, meetsT_iff h.2.1 h'.2.1, decide_eq_true_eq, decide_eq_true_eq]
  unfold maySp at h h'
  unfold maxT minT
  split <;> split <;> omega
theorem bothT_sym (f t f' t' : Int) : maxT f f' = maxT f' f ∧ minT t t' = minT t' t := by
  unfold maxT minT
  constructor <;> split <;> split <;> omega
theorem meetsT_sym (f t f' t' : Int) : meetsT f t f' t' = meetsT f' t' f t := by unfold meetsT; rw [Bool.or_comm]

end Go.Proofs.YtldcagjnngkabaaGreatDoor
