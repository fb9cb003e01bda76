/-
  Plain theory of a stable sort: places of an array in another order that keeps those of one key in theirs; two runs that change places (a rotation, by exchanges); the merge by a cut that mirrors itself; blocks. No program is walked here.
-/
import Derived.Sort.LotA
import Derived.Test.YtlahfffgmfjpaaaGreatDoorPart17
import Derived.Shelf.SlSortCmp.KitK
import Derived.BigRegion
import Derived.Deep.LoopGhost
namespace Go.Proofs.YtlahfffgmfjpaaaGreatDoor
open Go.Sort

section
variable {α : Type} [Inhabited α]

/-- The places a ≤ i < m and m ≤ i < b change places; each keeps its order. -/
structure Rot (a m b : Nat) (d d' : Array α) : Prop where
  am : a ≤ m
  mb : m ≤ b
  bs : b ≤ d.size
  size : d'.size = d.size
  out : ∀ i, (i < a ∨ b ≤ i) → d'[i]! = d[i]!
  lo : ∀ i, a ≤ i → i < a + (b - m) → d'[i]! = d[i + (m - a)]!
  hi : ∀ i, a + (b - m) ≤ i → i < b → d'[i]! = d[i - (b - m)]!

theorem Rot.none {a b : Nat} {d : Array α} (h : a ≤ b) (hb : b ≤ d.size) : Rot a a b d d :=
  ⟨Nat.le_refl _, h, hb, rfl, fun _ _ => rfl, fun i _ _ => by rw [Nat.sub_self, Nat.add_zero], fun i h1 h2 => by omega⟩
theorem Rot.none' {a b : Nat} {d : Array α} (h : a ≤ b) (hb : b ≤ d.size) : Rot a b b d d :=
  ⟨h, Nat.le_refl _, hb, rfl, fun _ _ => rfl, fun i h1 h2 => by omega, fun i _ _ => by rw [Nat.sub_self, Nat.sub_zero]⟩

/-- 'swapRange' behind n rounds. -/
def swapR (a b : Nat) : Nat → Array α → Array α
  | 0, d => d
  | n + 1, d => swp (swapR a b n d) (a + n) (b + n)
theorem swapR_size (a b n : Nat) (d : Array α) : (swapR a b n d).size = d.size := by
  induction n with
  | zero => rfl
  | succ n ih => simp only [swapR, swp_size, ih]
theorem swapR_get (a b n : Nat) (d : Array α) (h1 : a + n ≤ b) (h2 : b + n ≤ d.size) (k : Nat) :
    (swapR a b n d)[k]! = if a ≤ k ∧ k < a + n then d[k - a + b]! else if b ≤ k ∧ k < b + n then d[k - b + a]! else d[k]! := by
  induction n generalizing k with
  | zero => rw [if_neg (by omega), if_neg (by omega)]; rfl
  | succ n ih =>
    have ih' := ih (by omega) (by omega)
    simp only [swapR]
    rw [swp_get _ (by rw [swapR_size]; omega) (by rw [swapR_size]; omega)]
    by_cases e1 : k = b + n
    · rw [if_pos e1, ih' (a + n), if_neg (by omega), if_neg (by omega), if_neg (by omega), if_pos (by omega)]
      rw [show k - b + a = a + n by omega]
    · rw [if_neg e1]
      by_cases e2 : k = a + n
      · rw [if_pos e2, ih' (b + n), if_neg (by omega), if_neg (by omega), if_pos (by omega)]
        rw [show k - a + b = b + n by omega]
      · rw [if_neg e2, ih' k]
        by_cases c1 : a ≤ k ∧ k < a + n
        · rw [if_pos c1, if_pos (by omega)]
        · rw [if_neg c1]
          by_cases c2 : b ≤ k ∧ k < b + n
          · rw [if_pos c2, if_neg (by omega), if_pos (by omega)]
          · rw [if_neg c2, if_neg (by omega), if_neg (by omega)]

/-- A rotation's rounds. -/
theorem Rot.left {m i j : Nat} {d d'' : Array α} (hi : j < i) (him : i ≤ m) (hs : m + j ≤ d.size) (h : Rot (m - (i - j)) m (m + j) (swapR (m - i) m j d) d'') : Rot (m - i) m (m + j) d d'' := by
  have g := swapR_get (m - i) m j d (by omega) (by omega)
  refine ⟨by omega, by omega, hs, by rw [h.size, swapR_size], fun k hk => ?_, fun k h1 h2 => ?_, fun k h1 h2 => ?_⟩
  · rw [h.out k (by omega), g, if_neg (by omega), if_neg (by omega)]
  · rw [h.out k (by omega), g, if_pos (by omega)]
    rw [show k - (m - i) + m = k + (m - (m - i)) by omega]
  · by_cases c : k < m - (i - j) + (m + j - m)
    · rw [h.lo k (by omega) c, g, if_neg (by omega), if_pos (by omega)]
      rw [show k + (m - (m - (i - j))) - m + (m - i) = k - (m + j - m) by omega]
    · rw [h.hi k (by omega) h2, g, if_neg (by omega), if_neg (by omega)]
theorem Rot.right {m i j : Nat} {d d'' : Array α} (hi : i < j) (him : i ≤ m) (hs : m + j ≤ d.size) (h : Rot (m - i) m (m + (j - i)) (swapR (m - i) (m + j - i) i d) d'') : Rot (m - i) m (m + j) d d'' := by
  have g := swapR_get (m - i) (m + j - i) i d (by omega) (by omega)
  refine ⟨by omega, by omega, hs, by rw [h.size, swapR_size], fun k hk => ?_, fun k h1 h2 => ?_, fun k h1 h2 => ?_⟩
  · rw [h.out k (by omega), g, if_neg (by omega), if_neg (by omega)]
  · by_cases c : k < m - i + (m + (j - i) - m)
    · rw [h.lo k (by omega) c, g, if_neg (by omega)]
      by_cases c2 : m + j - i ≤ k + (m - (m - i))
      · exfalso; omega
      · rw [if_neg (by omega)]
    · by_cases c3 : k < m + (j - i)
      · rw [h.hi k (by omega) (by omega), g, if_pos (by omega)]
        rw [show k - (m + (j - i) - m) - (m - i) + (m + j - i) = k + (m - (m - i)) by omega]
      · exfalso; omega
  · rw [h.out k (by omega), g, if_neg (by omega), if_pos (by omega)]
    rw [show k - (m + j - i) + (m - i) = k - (m + j - m) by omega]
theorem Rot.last {m i : Nat} {d : Array α} (him : i ≤ m) (hs : m + i ≤ d.size) : Rot (m - i) m (m + i) d (swapR (m - i) m i d) := by
  have g := swapR_get (m - i) m i d (by omega) (by omega)
  refine ⟨by omega, by omega, hs, swapR_size _ _ _ _, fun k hk => ?_, fun k h1 h2 => ?_, fun k h1 h2 => ?_⟩
  · rw [g, if_neg (by omega), if_neg (by omega)]
  · rw [g, if_pos (by omega)]
    rw [show k - (m - i) + m = k + (m - (m - i)) by omega]
  · rw [g, if_neg (by omega), if_pos (by omega)]
    rw [show k - m + (m - i) = k - (m + i - m) by omega]

/-- One moves up, a place a round; and down. -/
theorem Rot.up {a k : Nat} {d d' : Array α} (h : Rot a (a + 1) (k + 1) d d') (hs : k + 1 < d.size) : Rot a (a + 1) (k + 2) d (swp d' k (k + 1)) := by
  have hk : a ≤ k := by have := h.mb; omega
  have g := swp_get d' (i := k) (j := k + 1) (by rw [h.size]; omega) (by rw [h.size]; omega)
  refine ⟨by omega, by omega, by omega, by rw [swp_size, h.size], fun i hi => ?_, fun i h1 h2 => ?_, fun i h1 h2 => ?_⟩
  · rw [g, if_neg (by omega), if_neg (by omega), h.out i (by omega)]
  · by_cases c : i = k
    · rw [g, if_neg (by omega), if_pos c, h.out (k + 1) (by omega), c, show k + (a + 1 - a) = k + 1 by omega]
    · rw [g, if_neg (by omega), if_neg c, h.lo i h1 (by omega)]
  · have e : i = k + 1 := by omega
    subst e
    rw [g, if_pos rfl, h.hi k (by omega) (by omega), show k - (k + 1 - (a + 1)) = a by omega, show k + 1 - (k + 2 - (a + 1)) = a by omega]
theorem Rot.down {m k : Nat} {d d' : Array α} (h : Rot (k + 1) m (m + 1) d d') : Rot k m (m + 1) d (swp d' (k + 1) k) := by
  have hk := h.am
  have hs := h.bs
  have g := swp_get d' (i := k + 1) (j := k) (by rw [h.size]; omega) (by rw [h.size]; omega)
  refine ⟨by omega, by omega, by omega, by rw [swp_size, h.size], fun i hi => ?_, fun i h1 h2 => ?_, fun i h1 h2 => ?_⟩
  · rw [g, if_neg (by omega), if_neg (by omega), h.out i (by omega)]
  · have e : i = k := by omega
    subst e
    rw [g, if_pos rfl, h.lo (i + 1) (by omega) (by omega), show i + 1 + (m - (i + 1)) = m by omega, show i + (m - i) = m by omega]
  · by_cases c : i = k + 1
    · rw [g, if_neg (by omega), if_pos c, h.out k (by omega), c, show k + 1 - (m + 1 - m) = k by omega]
    · rw [g, if_neg (by omega), if_neg c, h.hi i (by omega) h2]
theorem Rot.swp {k : Nat} {d : Array α} (hs : k + 1 < d.size) : Rot k (k + 1) (k + 2) d (swp d (k + 1) k) :=
  Rot.down (Rot.none' (a := k + 1) (b := k + 2) (by omega) hs |> fun h => by
    refine ⟨by omega, by omega, hs, rfl, fun _ _ => rfl, fun i h1 h2 => ?_, fun i h1 h2 => ?_⟩
    · rw [show i + (k + 1 - (k + 1)) = i by omega]
    · omega)

variable (key : α → Int)

/-- Places a ≤ i < b in another order that keeps those of one key in theirs; the others as they were. -/
structure Stab (a b : Nat) (d d' : Array α) : Prop where
  size : d'.size = d.size
  out : ∀ i, (i < a ∨ b ≤ i) → d'[i]! = d[i]!
  of : ∀ i, a ≤ i → i < b → ∃ j, a ≤ j ∧ j < b ∧ d'[i]! = d[j]!
  keep : ∀ k : Int, d'.toList.filter (fun x => decide (key x = k)) = d.toList.filter (fun x => decide (key x = k))
def Asc (a b : Nat) (d : Array α) : Prop := ∀ i j, a ≤ i → i < j → j < b → key d[i]! ≤ key d[j]!

variable {key}
theorem Stab.refl (a b : Nat) (d : Array α) : Stab key a b d d := ⟨rfl, fun _ _ => rfl, fun i h1 h2 => ⟨i, h1, h2, rfl⟩, fun _ => rfl⟩
theorem Stab.trans {a b : Nat} {d d' d'' : Array α} (h : Stab key a b d d') (h' : Stab key a b d' d'') : Stab key a b d d'' :=
  ⟨h'.size.trans h.size, fun i hi => (h'.out i hi).trans (h.out i hi), fun i h1 h2 => by
    obtain ⟨j, j1, j2, e⟩ := h'.of i h1 h2
    obtain ⟨l, l1, l2, e'⟩ := h.of j j1 j2
    exact ⟨l, l1, l2, e.trans e'⟩, fun k => (h'.keep k).trans (h.keep k)⟩
theorem Stab.wide {a b a' b' : Nat} {d d' : Array α} (h : Stab key a b d d') (ha : a' ≤ a) (hb : b ≤ b') : Stab key a' b' d d' :=
  ⟨h.size, fun i hi => h.out i (by omega), fun i h1 h2 => by
    by_cases c : a ≤ i ∧ i < b
    · obtain ⟨j, j1, j2, e⟩ := h.of i c.1 c.2
      exact ⟨j, by omega, by omega, e⟩
    · exact ⟨i, h1, h2, h.out i (by omega)⟩, h.keep⟩

/-- A run of an array, as a list. -/
def runL (d : Array α) (a n : Nat) : List α := (List.range' a n).map (fun i => d[i]!)
theorem runL_all (d : Array α) : d.toList = runL d 0 d.size := by
  have := extract_toList d 0 d.size (Nat.le_refl _)
  simpa [runL] using this
theorem runL_app (d : Array α) (a n m : Nat) : runL d a (n + m) = runL d a n ++ runL d (a + n) m := by
  unfold runL
  rw [← List.map_append, List.range'_append_1]
theorem runL_shift (d d' : Array α) (a c n : Nat) (h : ∀ i, i < n → d'[a + i]! = d[c + i]!) : runL d' a n = runL d c n := by
  unfold runL
  apply List.ext_getElem
  · simp
  · intro k h1 h2
    simp only [List.length_map, List.length_range'] at h1
    simp only [List.getElem_map, List.getElem_range']
    rw [show a + 1 * k = a + k by omega, show c + 1 * k = c + k by omega]
    exact h k h1
theorem runL_mem {d : Array α} {a n : Nat} {x : α} (h : x ∈ runL d a n) : ∃ i, a ≤ i ∧ i < a + n ∧ d[i]! = x := by
  obtain ⟨i, hi, e⟩ := List.mem_map.1 h
  have := List.mem_range'_1.1 hi
  exact ⟨i, this.1, this.2, e⟩
theorem rot_lists {a m b : Nat} {d d' : Array α} (h : Rot a m b d d') : ∃ P U V S : List α, d.toList = P ++ (U ++ (V ++ S)) ∧ d'.toList = P ++ (V ++ (U ++ S)) ∧ U = runL d a (m - a) ∧ V = runL d m (b - m) := by
  have h1 := h.am
  have h2 := h.mb
  have h3 := h.bs
  refine ⟨runL d 0 a, runL d a (m - a), runL d m (b - m), runL d b (d.size - b), ?_, ?_, rfl, rfl⟩
  · rw [runL_all, show d.size = a + ((m - a) + ((b - m) + (d.size - b))) by omega, runL_app, runL_app, runL_app]
    simp only [Nat.zero_add]
    rw [show a + (m - a) = m by omega, show m + (b - m) = b by omega]
    congr 4
    congr 1
    omega
  · rw [runL_all, h.size, show d.size = a + ((b - m) + ((m - a) + (d.size - b))) by omega, runL_app, runL_app, runL_app]
    simp only [Nat.zero_add]
    rw [show a + (b - m) + (m - a) = b by omega]
    congr 1
    · exact runL_shift _ _ _ _ _ fun i hi => h.out _ (by omega)
    · congr 1
      · exact runL_shift _ _ _ _ _ fun i hi => by rw [h.lo _ (by omega) (by omega)]; congr 1; omega
      · congr 1
        · exact runL_shift _ _ _ _ _ fun i hi => by rw [h.hi _ (by omega) (by omega)]; congr 1; omega
        · rw [show a + (b - m + (m - a + (d.size - b))) - b = d.size - b by omega]
          exact runL_shift _ _ _ _ _ fun i hi => h.out _ (by omega)
/-- Where each of the second run is less than each of the first one, a rotation keeps those of one key in their order. -/
theorem Rot.stab {a m b : Nat} {d d' : Array α} (h : Rot a m b d d') (hlt : ∀ i j, a ≤ i → i < m → m ≤ j → j < b → key d[j]! < key d[i]!) : Stab key a b d d' := by
  have h1 := h.am
  have h2 := h.mb
  refine ⟨h.size, h.out, fun i i1 i2 => ?_, fun k => ?_⟩
  · by_cases c : i < a + (b - m)
    · exact ⟨_, by omega, by omega, h.lo i i1 c⟩
    · exact ⟨_, by omega, by omega, h.hi i (by omega) i2⟩
  · obtain ⟨P, U, V, S, e1, e2, eU, eV⟩ := rot_lists h
    rw [e1, e2]
    simp only [List.filter_append]
    by_cases c : ∃ x ∈ U, key x = k
    · have : V.filter (fun x => decide (key x = k)) = [] := by
        rw [List.filter_eq_nil_iff]
        intro y hy
        obtain ⟨x, hx, ek⟩ := c
        rw [eU] at hx
        rw [eV] at hy
        obtain ⟨i, i1, i2, ei⟩ := runL_mem hx
        obtain ⟨j, j1, j2, ej⟩ := runL_mem hy
        have := hlt i j i1 (by omega) j1 (by omega)
        rw [ei, ej] at this
        simp only [decide_eq_true_eq]
        omega
      rw [this]; simp
    · have : U.filter (fun x => decide (key x = k)) = [] := by
        rw [List.filter_eq_nil_iff]
        intro y hy
        simp only [decide_eq_true_eq]
        exact fun e => c ⟨y, hy, e⟩
      rw [this]; simp

/-! ### the insertion sort -/
theorem insInner_stab {lt : α → α → Bool} (hl : ∀ x y, lt x y = true → key x < key y) (a b : Nat) : ∀ (j : Nat) (d : Array α), j < b → b ≤ d.size → Stab key a b d (insInner lt a j d)
  | 0, d, _, _ => Stab.refl _ _ _
  | j + 1, d, hj, hb => by
    unfold insInner
    split
    · rename_i hc
      simp only [Bool.and_eq_true, decide_eq_true_eq] at hc
      have h1 : Stab key a b d (swp d (j + 1) j) := (Rot.stab (Rot.swp (by omega)) (fun i l i1 i2 l1 l2 => by
        obtain rfl : i = j := by omega
        obtain rfl : l = i + 1 := by omega
        exact hl _ _ hc.2)).wide (by omega) (by omega)
      exact h1.trans (insInner_stab hl a b j _ (by omega) (by rw [swp_size]; exact hb))
    · exact Stab.refl _ _ _
theorem insOuter_stab {lt : α → α → Bool} (hl : ∀ x y, lt x y = true → key x < key y) (a b : Nat) : ∀ (n i : Nat) (d : Array α), b - i ≤ n → b ≤ d.size → Stab key a b d (insOuter lt a b i d)
  | n, i, d, hn, hb => by
    by_cases hc : i < b
    · match n, hn with
      | 0, hn => omega
      | n + 1, hn =>
        rw [insOuter, if_pos hc]
        have h1 := insInner_stab hl a b i d hc hb
        exact h1.trans (insOuter_stab hl a b n (i + 1) _ (by omega) (by rw [h1.size]; exact hb))
    · rw [insOuter, if_neg hc]
      exact Stab.refl _ _ _
theorem ins_stab {lt : α → α → Bool} (hS : SWO lt) (hl : ∀ x y, lt x y = true ↔ key x < key y) (d : Array α) (a b : Nat) (hab : a ≤ b) (hb : b ≤ d.size) : Stab key a b d (insertionSort lt d a b) ∧ Asc key a b (insertionSort lt d a b) := by
  refine ⟨insOuter_stab (fun x y h => (hl x y).1 h) a b _ _ d (Nat.le_refl _) hb, fun i j h1 h2 h3 => ?_⟩
  have := (insertionSort_holds (lt := lt) hS d a b hab hb).2 i j h1 h2 h3
  apply Int.not_lt.1
  intro hc
  rw [(hl _ _).2 hc] at this
  cases this

/-! ### the merge -/
theorem Asc.le {a b : Nat} {d : Array α} (h : Asc key a b d) {i j : Nat} (h1 : a ≤ i) (h2 : i ≤ j) (h3 : j < b) : key d[i]! ≤ key d[j]! := by
  rcases Nat.lt_or_ge i j with c | c
  · exact h i j h1 c h3
  · obtain rfl : i = j := by omega
    exact Int.le_refl _
/-- Two runs, each ascending, of which none of the first is greater than one of the second. -/
theorem Asc.app {a m b : Nat} {d : Array α} (h1 : Asc key a m d) (h2 : Asc key m b d) (h : ∀ i j, a ≤ i → i < m → m ≤ j → j < b → key d[i]! ≤ key d[j]!) : Asc key a b d := fun i j i1 ij j1 => by
  by_cases c : j < m
  · exact h1 i j i1 ij c
  · by_cases c2 : i < m
    · exact h i j i1 c2 (by omega) j1
    · exact h2 i j (by omega) ij j1
theorem Asc.short {a b : Nat} {d : Array α} (h : b ≤ a + 1) : Asc key a b d := fun i j _ _ _ => by omega
theorem Asc.part {a b a' b' : Nat} {d : Array α} (h : Asc key a b d) (ha : a ≤ a') (hb : b' ≤ b) : Asc key a' b' d := fun i j h1 h2 h3 => h i j (by omega) h2 (by omega)
theorem Asc.same {a b : Nat} {d d' : Array α} (h : Asc key a b d) (e : ∀ i, a ≤ i → i < b → d'[i]! = d[i]!) : Asc key a b d' := fun i j h1 h2 h3 => by rw [e i h1 (by omega), e j (by omega) h3]; exact h i j h1 h2 h3

/-- One ahead of a run. -/
theorem one_up {a i b : Nat} {d d' : Array α} (h : Rot a (a + 1) i d d') (hA : Asc key (a + 1) b d) (hi : i ≤ b)
    (lo : i = a + 1 ∨ key d[i - 1]! < key d[a]!) (hh : i = b ∨ ¬ key d[i]! < key d[a]!) : Stab key a b d d' ∧ Asc key a b d' := by
  have h2 := h.mb
  have hlt : ∀ j, a + 1 ≤ j → j < i → key d[j]! < key d[a]! := fun j j1 j2 => by
    rcases lo with c | c
    · omega
    · exact Int.lt_of_le_of_lt (hA.le j1 (show j ≤ i - 1 by omega) (by omega)) c
  have hge : ∀ j, i ≤ j → j < b → key d[a]! ≤ key d[j]! := fun j j1 j2 => by
    rcases hh with c | c
    · omega
    · exact Int.le_trans (Int.not_lt.1 c) (hA.le h2 j1 j2)
  refine ⟨(h.stab fun x y x1 x2 y1 y2 => by obtain rfl : x = a := (by omega); exact hlt y y1 y2).wide (Nat.le_refl _) hi, ?_⟩
  have e1 : ∀ x, a ≤ x → x < i - 1 → d'[x]! = d[x + 1]! := fun x x1 x2 => by rw [h.lo x x1 (by omega), show x + (a + 1 - a) = x + 1 by omega]
  have e2 : d'[i - 1]! = d[a]! := by rw [h.hi (i - 1) (by omega) (by omega), show i - 1 - (i - (a + 1)) = a by omega]
  have e3 : ∀ x, i ≤ x → d'[x]! = d[x]! := fun x x1 => h.out x (by omega)
  intro x y x1 xy y1
  by_cases c1 : x < i - 1
  · rw [e1 x x1 c1]
    by_cases c2 : y < i - 1
    · rw [e1 y (by omega) c2]; exact hA _ _ (by omega) (by omega) (by omega)
    · by_cases c3 : y = i - 1
      · rw [c3, e2]; exact Int.le_of_lt (hlt _ (by omega) (by omega))
      · rw [e3 y (by omega)]; exact hA _ _ (by omega) (by omega) (by omega)
  · by_cases c2 : x = i - 1
    · rw [c2, e2, e3 y (by omega)]; exact hge y (by omega) y1
    · rw [e3 x (by omega), e3 y (by omega)]; exact hA _ _ (by omega) (by omega) (by omega)
/-- One behind a run. -/
theorem one_down {a i m : Nat} {d d' : Array α} (h : Rot i m (m + 1) d d') (hA : Asc key a m d) (hi : a ≤ i)
    (lo : i = a ∨ ¬ key d[m]! < key d[i - 1]!) (hh : i = m ∨ key d[m]! < key d[i]!) : Stab key a (m + 1) d d' ∧ Asc key a (m + 1) d' := by
  have h1 := h.am
  have hlt : ∀ j, i ≤ j → j < m → key d[m]! < key d[j]! := fun j j1 j2 => by
    rcases hh with c | c
    · omega
    · exact Int.lt_of_lt_of_le c (hA.le hi j1 j2)
  have hge : ∀ j, a ≤ j → j < i → key d[j]! ≤ key d[m]! := fun j j1 j2 => by
    rcases lo with c | c
    · omega
    · exact Int.le_trans (hA.le j1 (show j ≤ i - 1 by omega) (by omega)) (Int.not_lt.1 c)
  refine ⟨(h.stab fun x y x1 x2 y1 y2 => by obtain rfl : y = m := (by omega); exact hlt x x1 x2).wide hi (Nat.le_refl _), ?_⟩
  have e1 : ∀ x, i < x → x < m + 1 → d'[x]! = d[x - 1]! := fun x x1 x2 => by rw [h.hi x (by omega) x2, show x - (m + 1 - m) = x - 1 by omega]
  have e2 : d'[i]! = d[m]! := by rw [h.lo i (by omega) (by omega), show i + (m - i) = m by omega]
  have e3 : ∀ x, x < i → d'[x]! = d[x]! := fun x x1 => h.out x (by omega)
  intro x y x1 xy y1
  by_cases c1 : i < x
  · rw [e1 x c1 (by omega), e1 y (by omega) y1]; exact hA _ _ (by omega) (by omega) (by omega)
  · by_cases c2 : x = i
    · rw [c2, e2, e1 y (by omega) y1]; exact Int.le_of_lt (hlt _ (by omega) (by omega))
    · rw [e3 x (by omega)]
      by_cases c3 : i < y
      · rw [e1 y c3 y1]; exact hA _ _ (by omega) (by omega) (by omega)
      · by_cases c4 : y = i
        · rw [c4, e2]; exact hge _ (by omega) (by omega)
        · rw [e3 y (by omega)]; exact hA _ _ (by omega) (by omega) (by omega)

/-- What the search for the cut has found. -/
structure Cut (key : α → Int) (a m b mid st en : Nat) (d : Array α) : Prop where
  ast : a ≤ st
  stm : st ≤ m
  smd : st ≤ mid
  men : m ≤ en
  enb : en ≤ b
  mde : mid ≤ en
  len : st + (en - m) = mid
  lt : ∀ i j, st ≤ i → i < m → m ≤ j → j < en → key d[j]! < key d[i]!
  le : ∀ i j, a ≤ i → i < st → en ≤ j → j < b → key d[i]! ≤ key d[j]!
theorem cut_of {a m b mid st s0 r0 : Nat} {d : Array α} (ham : a < m) (hmb : m < b) (hm : mid = (a + b) / 2) (h1 : Asc key a m d) (h2 : Asc key m b d)
    (hc : (mid < m ∧ s0 = mid + m - b ∧ r0 = mid) ∨ (m ≤ mid ∧ s0 = a ∧ r0 = m)) (hs : s0 ≤ st) (hr : st ≤ r0)
    (lo : st = s0 ∨ ¬ key d[mid + m - 1 - (st - 1)]! < key d[st - 1]!) (hi : st = r0 ∨ key d[mid + m - 1 - st]! < key d[st]!) : Cut key a m b mid st (mid + m - st) d := by
  refine ⟨by omega, by omega, by omega, by omega, by omega, by omega, by omega, fun i j i1 i2 j1 j2 => ?_, fun i j i1 i2 j1 j2 => ?_⟩
  · rcases hi with c | c
    · omega
    · have k1 := h1.le (show a ≤ st by omega) i1 i2
      have k2 := h2.le j1 (show j ≤ mid + m - 1 - st by omega) (by omega)
      omega
  · rcases lo with c | c
    · omega
    · have k1 := h1.le i1 (show i ≤ st - 1 by omega) (by omega)
      have k2 := h2.le (show m ≤ mid + m - 1 - (st - 1) by omega) (show mid + m - 1 - (st - 1) ≤ j by omega) j2
      omega
theorem Cut.rot {a m b mid st en : Nat} {d d1 : Array α} (C : Cut key a m b mid st en d) (h1 : Asc key a m d) (h2 : Asc key m b d) (R : Rot st m en d d1) :
    Stab key a b d d1 ∧ Asc key a st d1 ∧ Asc key st mid d1 ∧ Asc key mid en d1 ∧ Asc key en b d1 ∧ (∀ i j, a ≤ i → i < mid → mid ≤ j → j < b → key d1[i]! ≤ key d1[j]!) := by
  obtain ⟨ast, stm, smd, men, enb, mde, len, hlt, hle⟩ := C
  have e1 : ∀ x, st ≤ x → x < mid → d1[x]! = d[x + (m - st)]! := fun x x1 x2 => R.lo x x1 (by omega)
  have e2 : ∀ x, mid ≤ x → x < en → d1[x]! = d[x - (en - m)]! := fun x x1 x2 => R.hi x (by omega) x2
  have e3 : ∀ x, x < st → d1[x]! = d[x]! := fun x x1 => R.out x (by omega)
  have e4 : ∀ x, en ≤ x → d1[x]! = d[x]! := fun x x1 => R.out x (by omega)
  refine ⟨(R.stab hlt).wide ast enb, ?_, ?_, ?_, ?_, ?_⟩
  · exact (h1.part (Nat.le_refl _) stm).same fun i _ hi => e3 i hi
  · intro i j i1 ij j1
    rw [e1 i i1 (by omega), e1 j (by omega) j1]
    exact h2 _ _ (by omega) (by omega) (by omega)
  · intro i j i1 ij j1
    rw [e2 i i1 (by omega), e2 j (by omega) j1]
    exact h1 _ _ (by omega) (by omega) (by omega)
  · exact (h2.part men (Nat.le_refl _)).same fun i hi _ => e4 i hi
  · intro i j i1 i2 j1 j2
    by_cases c1 : i < st
    · rw [e3 i c1]
      by_cases c2 : j < en
      · rw [e2 j j1 c2]; exact h1.le i1 (by omega) (by omega)
      · rw [e4 j (by omega)]; exact hle i j i1 c1 (by omega) j2
    · rw [e1 i (by omega) i2]
      by_cases c2 : j < en
      · rw [e2 j j1 c2]; exact Int.le_of_lt (hlt _ _ (by omega) (by omega) (by omega) (by omega))
      · rw [e4 j (by omega)]; exact h2.le (by omega) (by omega) j2
/-- The two halves, each merged. -/
theorem merge_join {a b mid : Nat} {d d1 d2 d3 : Array α} (hm : a ≤ mid) (hb : mid ≤ b) (S1 : Stab key a b d d1) (hle : ∀ i j, a ≤ i → i < mid → mid ≤ j → j < b → key d1[i]! ≤ key d1[j]!)
    (S2 : Stab key a mid d1 d2) (A2 : Asc key a mid d2) (S3 : Stab key mid b d2 d3) (A3 : Asc key mid b d3) : Stab key a b d d3 ∧ Asc key a b d3 := by
  refine ⟨(S1.trans (S2.wide (Nat.le_refl _) hb)).trans (S3.wide hm (Nat.le_refl _)), ?_⟩
  refine Asc.app (A2.same fun i _ hi => S3.out i (Or.inl hi)) A3 fun i j i1 i2 j1 j2 => ?_
  rw [S3.out i (Or.inl i2)]
  obtain ⟨x, x1, x2, ex⟩ := S2.of i i1 i2
  obtain ⟨y, y1, y2, ey⟩ := S3.of j j1 j2
  rw [ex, ey, S2.out y (Or.inr y1)]
  exact hle x y x1 x2 y1 y2

/-! ### blocks -/
/-- Each block of so many that begins ahead of the place c ascends. -/
def Blks (key : α → Int) (bs n c : Nat) (d : Array α) : Prop := ∀ t, t * bs < c → Asc key (t * bs) (min (t * bs + bs) n) d
theorem Blks.zero (bs n : Nat) (d : Array α) : Blks key bs n 0 d := fun t h => by omega
theorem mul_next {t t' bs : Nat} (h : t' * bs < t * bs) : t' * bs + bs ≤ t * bs := by
  have h1 : t' < t := Nat.lt_of_mul_lt_mul_right h
  have h2 := Nat.mul_le_mul_right bs (show t' + 1 ≤ t from h1)
  rwa [Nat.add_mul, Nat.one_mul] at h2
theorem Blks.step {bs n t e : Nat} {d d' : Array α} (h : Blks key bs n (t * bs) d) (S : Stab key (t * bs) e d d') (A : Asc key (t * bs) (min (t * bs + bs) n) d') : Blks key bs n (t * bs + bs) d' := fun t' h' => by
  by_cases c : t' * bs < t * bs
  · have h1 := mul_next c
    exact (h t' c).same fun i _ hi => S.out i (Or.inl (by omega))
  · by_cases c2 : t' = t
    · rw [c2]; exact A
    · exfalso
      have h2 : t * bs < t' * bs := by
        rcases Nat.lt_or_ge t t' with k | k
        · have h3 := Nat.mul_le_mul_right bs (show t + 1 ≤ t' from k)
          rw [Nat.add_mul, Nat.one_mul] at h3
          have : 0 < bs := by
            rcases Nat.eq_zero_or_pos bs with z | z
            · subst z; simp at h'
            · exact z
          omega
        · exact absurd (Nat.mul_lt_mul_of_pos_right (show t' < t by omega) (by
            rcases Nat.eq_zero_or_pos bs with z | z
            · subst z; simp at h'
            · exact z)) c
      have := mul_next h2
      omega
theorem Blks.all {bs n c : Nat} {d : Array α} (h : Blks key bs n c d) (hc : 0 < c) (hb : n ≤ bs) : Asc key 0 n d := by
  have := h 0 (by omega)
  rw [Nat.zero_mul, Nat.zero_add, Nat.min_eq_right hb] at this
  exact this
/-- A pass of merges behind t of them: blocks of twice as many, then blocks of so many. -/
def Two (key : α → Int) (bs n t : Nat) (d : Array α) : Prop := Blks key (2 * bs) n (t * (2 * bs)) d ∧ ∀ t', t * (2 * bs) ≤ t' * bs → t' * bs < n → Asc key (t' * bs) (min (t' * bs + bs) n) d
theorem Two.start {bs n : Nat} {d : Array α} (h : Blks key bs n n d) : Two key bs n 0 d := ⟨by rw [Nat.zero_mul]; exact Blks.zero _ _ _, fun t' _ h2 => h t' h2⟩
theorem two_mul_pass (t bs : Nat) : (2 * t) * bs = t * (2 * bs) := by rw [Nat.mul_comm 2 t, Nat.mul_assoc]
theorem two_mul_pass' (t bs : Nat) : (2 * t + 1) * bs = t * (2 * bs) + bs := by rw [Nat.add_mul, two_mul_pass, Nat.one_mul]
theorem Two.one {bs n t : Nat} {d : Array α} (h : Two key bs n t d) : Asc key (t * (2 * bs)) (min (t * (2 * bs) + bs) n) d := by
  by_cases c : t * (2 * bs) < n
  · have := h.2 (2 * t) (by rw [two_mul_pass]; exact Nat.le_refl _) (by rw [two_mul_pass]; exact c)
    rwa [two_mul_pass] at this
  · exact Asc.short (by omega)
theorem Two.two {bs n t : Nat} {d : Array α} (h : Two key bs n t d) : Asc key (t * (2 * bs) + bs) (min (t * (2 * bs) + 2 * bs) n) d := by
  by_cases c : t * (2 * bs) + bs < n
  · have := h.2 (2 * t + 1) (by rw [two_mul_pass']; omega) (by rw [two_mul_pass']; exact c)
    rw [two_mul_pass'] at this
    rwa [show t * (2 * bs) + 2 * bs = t * (2 * bs) + bs + bs by omega]
  · exact Asc.short (by omega)
theorem Two.step {bs n t e : Nat} {d d' : Array α} (h : Two key bs n t d) (S : Stab key (t * (2 * bs)) e d d') (he : e ≤ t * (2 * bs) + 2 * bs) (A : Asc key (t * (2 * bs)) (min (t * (2 * bs) + 2 * bs) n) d') : Two key bs n (t + 1) d' := by
  refine ⟨by rw [Nat.add_mul, Nat.one_mul]; exact h.1.step S A, fun t' h1 h2 => ?_⟩
  rw [Nat.add_mul, Nat.one_mul] at h1
  exact (h.2 t' (by omega) h2).same fun i hi _ => S.out i (Or.inr (by omega))
theorem Two.all {bs n t : Nat} {d : Array α} (h : Two key bs n t d) (hn : n ≤ t * (2 * bs)) : Blks key (2 * bs) n n d := fun t' h' => h.1 t' (by omega)

omit [Inhabited α] in
end
end Go.Proofs.YtlahfffgmfjpaaaGreatDoor

/-
  The sort's steps at places: two change places; so many do (slices.swapRangeCmpFunc); two runs do (slices.rotateCmpFunc).
-/
namespace Go.Proofs.YtlahfffgmfjpaaaGreatDoor
open Go Go.RowKit Go.Shelf Go.Sort Go.Lib

/-- How many cells a place has: under a name, so that nine cells are read, and written, as one. -/
def nineK : Nat := 9
theorem size_pl (w : World) : (Go.sizeOf 32).run Tryz.prog w = .ok nineK w := by kernel_rfl

attribute [local go_sem] Oper.semAt_some ext_const
attribute [local simp high] size_pl
attribute [local go_sem high] size_pl

theorem Blk.stay {W W' : World} {row : Option Nat} {B : Nat} {t : TypeId} {vs : Array Value} (h : Blk W B t vs) (hg : W.grownBy W' row) (hne : row ≠ some B) : Blk W' B t vs := (hg.block B h.lt (fun e => hne e.symm)).trans h

/-- What the sort keeps: the list, in a block of its own from number base on; a box of another block; what lay below. -/
structure Sv (base g cap Bd : Nat) (cs : Array Value) (w0 : World) (dk : Array Pl) (W : World) : Prop where
  lst : Lp W base (.slice (some ⟨g, 0, none⟩) dk.size cap) dk.toList
  box : Blk W Bd 23 cs
  ne : Bd ≠ g
  bg : base ≤ W.heap.size
  below : Below base w0 W

section
variable {base g cap Bd : Nat} {cs : Array Value} {w0 W : World} {dk : Array Pl}
theorem Sv.later (S : Sv base g cap Bd cs w0 dk W) {W' : World} (hb : Below W.heap.size W W') : Sv base g cap Bd cs w0 dk W' :=
  ⟨S.lst.later hb, S.box.later hb, S.ne, Nat.le_trans S.bg hb.size, S.below.trans (hb.mono S.bg)⟩
theorem flatPl_eq [Inhabited Pl] (xs : List Pl) : (flatK cellsP 9 xs.toArray).toList = flatPl xs := by
  apply List.ext_getElem?
  intro t
  by_cases ht : t < xs.length * 9
  · have h1 : t / 9 < xs.length := by omega
    have h2 : t % 9 < 9 := Nat.mod_lt _ (by omega)
    have e := flatPl_get xs (t / 9) (t % 9) h2 h1
    rw [show t / 9 * 9 + t % 9 = t by omega] at e
    rw [e]
    simp [flatK, ht, h1, cellsP_len, h2]
  · rw [List.getElem?_eq_none (by simp; omega), List.getElem?_eq_none (by rw [flatPl_len]; omega)]
theorem Sv.block (S : Sv base g cap Bd cs w0 dk W) : ∃ cur, W.heap[g]? = some (.cells cur 32 (0, 0)) ∧ base ≤ g ∧ dk.size ≤ cap ∧ cap ≤ maxLen ∧ cur.size = cap * 9 ∧ cur.toList.take (dk.size * 9) = flatPl dk.toList := by
  obtain ⟨_, h2⟩ := S.lst
  rcases h2 with ⟨e, _⟩ | ⟨g', cap', cur, e, hg, hh, hc, hc2, hs, ht⟩
  · cases e
  · simp only [Value.slice.injEq, Option.some.injEq, Addr.mk.injEq, and_true] at e
    obtain ⟨rfl, e2, rfl⟩ := e
    rw [← e2] at hc ht
    exact ⟨cur, hh, hg, hc, hc2, hs, ht⟩
theorem Sv.holds [Inhabited Pl] (S : Sv base g cap Bd cs w0 dk W) : HoldsK cellsP 9 W g 0 dk := by
  obtain ⟨cur, hb, _, _, _, _, ht⟩ := S.block
  intro j hj
  have hj' : j < dk.size * 9 := by simpa using hj
  refine ⟨?_, by simp [World.frozen?, hb]⟩
  have h1 : (cur.toList.take (dk.size * 9))[j]? = (flatK cellsP 9 dk).toList[j]? := by rw [ht, ← flatPl_eq]
  rw [List.getElem?_take_of_lt hj'] at h1
  simp only [World.cell?, hb, Nat.zero_add]
  simp only [Option.isSome_none, Bool.false_eq_true, if_false]
  rw [← Array.getElem?_toList, h1, Array.getElem?_toList]
  simp [hj']
theorem Sv.row [Inhabited Pl] (S : Sv base g cap Bd cs w0 dk W) : RowK cellsP 9 W g 0 dk := by
  obtain ⟨cur, hb, _⟩ := S.block
  exact ⟨cellsP_len, cellsP_one, S.holds, (Array.getElem?_eq_some_iff.1 hb).1⟩
theorem putP_take (cur F : Array Value) (h : F.size ≤ cur.size) : (putCells id 0 F cur).toList.take F.size = F.toList := by
  apply List.ext_getElem?
  intro j
  by_cases hj : j < F.size
  · rw [List.getElem?_take_of_lt hj, Array.getElem?_toList]
    simp [putCells, hj, show j < cur.size by omega]
  · rw [List.getElem?_take_eq_none (by omega), List.getElem?_eq_none (by simp; omega)]
/-- Behind two that changed places. -/
theorem Sv.swapped [Inhabited Pl] (S : Sv base g cap Bd cs w0 dk W) {i j : Nat} (hi : i < dk.size) (hj : j < dk.size) :
    Sv base g cap Bd cs w0 (swp dk i j) ((W.drew.setCells g (i * nineK) (cellsP dk[j]!)).setCells g (j * nineK) (cellsP dk[i]!)) := by
  show Sv base g cap Bd cs w0 (swp dk i j) ((W.drew.setCells g (i * 9) (cellsP dk[j]!)).setCells g (j * 9) (cellsP dk[i]!))
  obtain ⟨cur, hb, hg, hc, hc2, hs, ht⟩ := S.block
  have hlt : g < W.heap.size := (Array.getElem?_eq_some_iff.1 hb).1
  obtain ⟨n, os, e⟩ := (SWK.start S.holds).swapped S.row i j hi hj
  simp only [Nat.zero_add] at e
  rw [e]
  have hsz : (swp dk i j).size = dk.size := swp_size dk i j
  have hheap : (sortWorldK cellsP 9 W g 0 n (swp dk i j) os).heap[g]? = some (.cells (putCells id 0 (flatK cellsP 9 (swp dk i j)) cur) 32 (0, 0)) := by
    unfold sortWorldK putRowK
    rw [heap_grow_old _ _ (by simpa using hlt)]
    simp [putRow, mapBlock, Sort.ahead, Array.getElem?_modify, hb, onCells]
  have hgr : W.grownBy (sortWorldK cellsP 9 W g 0 n (swp dk i j) os) (some g) := by
    unfold sortWorldK putRowK
    refine ⟨rfl, rfl, rfl, by simp, fun k hk hne => ?_⟩
    rw [heap_grow_old _ _ (by simpa using hk)]
    have : g ≠ k := fun e => hne (by rw [e])
    simp [putRow, mapBlock, Sort.ahead, Array.getElem?_modify, this]
  have e2 : (flatK cellsP 9 (swp dk i j)).size = dk.size * 9 := by rw [size_flatK, hsz]
  refine ⟨⟨by simp [flatPl_len], .inr ⟨g, cap, _, rfl, hg, hheap, by simpa [hsz] using hc, hc2, by simpa [putCells] using hs, ?_⟩⟩, S.box.stay hgr (fun e => S.ne (by cases e; rfl)), S.ne, Nat.le_trans S.bg hgr.size, S.below.grown hgr S.bg (fun k e => by cases e; exact hg)⟩
  have e3 : (flatK cellsP 9 (swp dk i j)).toList = flatPl (swp dk i j).toList := by rw [← flatPl_eq]
  simp only [Array.length_toList]
  rw [hsz, ← e2, putP_take _ _ (by rw [e2, hs]; exact Nat.mul_le_mul_right 9 hc), e3]
theorem Sv.ld [Inhabited Pl] (S : Sv base g cap Bd cs w0 dk W) {i : Nat} (hi : i < dk.size) : Sem.run Tryz.prog (loadCellsFrom ⟨g, i * nineK, none⟩ 0 nineK #[]) W.drew = .ok (cellsP dk[i]!).toArray W.drew := by
  have := (SWK.start S.holds).ld1 S.row rfl Tryz.prog i hi
  rwa [Nat.zero_add] at this
theorem Sv.st1 [Inhabited Pl] (S : Sv base g cap Bd cs w0 dk W) {i : Nat} (hi : i < dk.size) (y : Pl) : Sem.run Tryz.prog (storeCells ⟨g, i * nineK, none⟩ (cellsP y) 0) W.drew = .ok () (W.drew.setCells g (i * nineK) (cellsP y)) := by
  have := (SWK.start S.holds).st1 S.row rfl Tryz.prog i hi y
  simp only [Nat.zero_add] at this
  exact this
theorem Sv.st2 [Inhabited Pl] (S : Sv base g cap Bd cs w0 dk W) {i j : Nat} (hi : i < dk.size) (hj : j < dk.size) (y x : Pl) : Sem.run Tryz.prog (storeCells ⟨g, j * nineK, none⟩ (cellsP x) 0) (W.drew.setCells g (i * nineK) (cellsP y)) = .ok () ((W.drew.setCells g (i * nineK) (cellsP y)).setCells g (j * nineK) (cellsP x)) := by
  have := (SWK.start S.holds).st2 S.row rfl Tryz.prog i j hi hj y x
  simp only [Nat.zero_add] at this
  exact this
end
theorem cellsP_nine (p : Pl) : (cellsP p).length = nineK := cellsP_len p

set_option maxHeartbeats 4000000 in
set_option maxRecDepth 1000000 in
/-- slices.swapRangeCmpFunc at places. -/
theorem swapRange_calls [Inhabited Pl] {base g cap Bd : Nat} {cs : Array Value} {w0 W : World} {dk : Array Pl} (S : Sv base g cap Bd cs w0 dk W) (hsz : dk.size ≤ 100000) {a b n : Nat} (h1 : a + n ≤ b) (h2 : b + n ≤ dk.size) (fv : Value) :
    Calls Tryz.prog 127 #[.slice (some ⟨g, 0, none⟩) dk.size cap, .int .i64 a, .int .i64 b, .int .i64 n, fv] W fun e W' => e = .returned (.tuple #[]) ∧ Sv base g cap Bd cs w0 (swapR a b n dk) W' := by
  have mixed : Tryz.prog.follows .mixedOrders = true := by kernel_rfl
  have S0 : Aside (Sv base g cap Bd cs w0 dk W) := S
  have HN : Hid (∀ t, (swapR a b t dk).size = dk.size) := fun t => swapR_size a b t dk
  clear S
  go_enter Tryz.func127, Tryz.ntmps127
  go_wp2
  go_loopg [10] n (fun kx s10 wr => ∃ (t : Nat) (d : Array Pl), s10 = .int .i64 t ∧ t ≤ n ∧ n - t ≤ kx ∧ d.size = dk.size ∧ d = swapR a b t dk ∧ Aside (Sv base g cap Bd cs w0 d wr))
  case atStart => exact ⟨0, dk, rfl, by omega, by omega, rfl, rfl, S0⟩
  case round =>
    clear S0
    obtain ⟨t, d, rfl, ht, hkx, hds, hd, S1⟩ := hrel
    have HD : Hid (d = swapR a b t dk) := hd
    clear hd
    by_cases hlt : (t : Int) < (n : Int)
    · go_wp2_with fail
      have pa : (0 : Int) ≤ (a : Int) + (t : Int) := by omega
      have pb : (0 : Int) ≤ (b : Int) + (t : Int) := by omega
      have qa : (a : Int) + (t : Int) < (dk.size : Int) := by omega
      have qb : (b : Int) + (t : Int) < (dk.size : Int) := by omega
      have ea : ((a : Int) + (t : Int)).toNat = a + t := by omega
      have eb : ((b : Int) + (t : Int)).toNat = b + t := by omega
      have ra : IntKind.i64.wrap ((a : Int) + (t : Int)) = (a : Int) + (t : Int) := by rw [IntKind.wrap_i64]; omega
      have rb : IntKind.i64.wrap ((b : Int) + (t : Int)) = (b : Int) + (t : Int) := by rw [IntKind.wrap_i64]; omega
      have S2 : Aside (Sv base g cap Bd cs w0 (swp d (a + t) (b + t)) ((wr.drew.setCells g ((a + t) * nineK) (cellsP d[b + t]!)).setCells g ((b + t) * nineK) (cellsP d[a + t]!))) := S1.out.swapped (by omega) (by omega)
      have l1 := S1.out.ld (i := a + t) (by omega)
      have l2 := S1.out.ld (i := b + t) (by omega)
      have s1 := S1.out.st1 (i := a + t) (by omega) d[b + t]!
      have s2 := S1.out.st2 (i := a + t) (j := b + t) (by omega) (by omega) d[b + t]! d[a + t]!
      have n1 := cellsP_nine d[a + t]!
      have n2 := cellsP_nine d[b + t]!
      have HQ : Hid (swp d (a + t) (b + t) = swapR a b (t + 1) dk) := by show _ = _; rw [HD.out]; rfl
      generalize swp d (a + t) (b + t) = d2 at S2 HQ
      generalize cellsP d[a + t]! = cI at S2 l1 s2 n1
      generalize cellsP d[b + t]! = cJ at S2 l2 s1 s2 n2
      clear S1 HD
      go_wp2_with fail
      go_big_region_o
      clear l1 l2 s1 s2
      generalize (wr.drew.setCells g ((a + t) * nineK) cJ).setCells g ((b + t) * nineK) cI = w2 at S2 ⊢
      go_wp2
      go_roundg (n - (t + 1))
      case measure => omega
      case rel => exact ⟨t + 1, d2, by go_num, by omega, Nat.le_refl _, by rw [HQ.out]; exact HN.out _, HQ.out, S2⟩
    · obtain rfl : t = n := by omega
      go_wp2
      go_end0
      exact ⟨rfl, HD.out ▸ S1.out⟩

set_option maxHeartbeats 4000000 in
set_option maxRecDepth 1000000 in
/-- slices.rotateCmpFunc at places. -/
theorem rotate_calls [Inhabited Pl] {base g cap Bd : Nat} {cs : Array Value} {w0 W : World} {dk : Array Pl} (S : Sv base g cap Bd cs w0 dk W) (hsz : dk.size ≤ 100000) {a m b : Nat} (h1 : a < m) (h2 : m < b) (h3 : b ≤ dk.size) (fv : Value) :
    Calls Tryz.prog 119 #[.slice (some ⟨g, 0, none⟩) dk.size cap, .int .i64 a, .int .i64 m, .int .i64 b, fv] W fun e W' => e = .returned (.tuple #[]) ∧ ∃ d', Rot a m b dk d' ∧ Sv base g cap Bd cs w0 d' W' := by
  have S0 : Aside (Sv base g cap Bd cs w0 dk W) := S
  have HC : Aside (∀ (d : Array Pl) (w1 : World) (x y n : Nat), d.size = dk.size → Sv base g cap Bd cs w0 d w1 → x + n ≤ y → y + n ≤ d.size → Calls Tryz.prog 127 #[.slice (some ⟨g, 0, none⟩) dk.size cap, .int .i64 x, .int .i64 y, .int .i64 n, fv] w1 fun e W' => e = .returned (.tuple #[]) ∧ Sv base g cap Bd cs w0 (swapR x y n d) W') := fun d w1 x y n hd hS k1 k2 => by
    have := swapRange_calls hS (by omega) k1 k2 fv
    rwa [hd] at this
  clear S
  go_enter Tryz.func119, Tryz.ntmps119
  go_wp2
  go_loopg [10, 11] (b - a) (fun kx s10 s11 wr => ∃ (i j : Nat) (d : Array Pl), s10 = .int .i64 i ∧ s11 = .int .i64 j ∧ 1 ≤ i ∧ 1 ≤ j ∧ i ≤ m ∧ m + j ≤ dk.size ∧ i + j ≤ kx ∧ d.size = dk.size ∧ Hid (∀ d'', Rot (m - i) m (m + j) d d'' → Rot a m b dk d'') ∧ Aside (Sv base g cap Bd cs w0 d wr))
  case atStart => exact ⟨m - a, b - m, dk, by go_num, by go_num, by omega, by omega, by omega, by omega, by omega, rfl, fun d'' h => by rwa [show m - (m - a) = a by omega, show m + (b - m) = b by omega] at h, S0⟩
  case round =>
    clear S0
    obtain ⟨i, j, d, rfl, rfl, hi, hj, him, hjm, hkx, hds, HR, S1⟩ := hrel
    rcases Nat.lt_trichotomy i j with c | c | c
    · have e1 : (m : Int) - (i : Int) = ((m - i : Nat) : Int) := by omega
      have e2 : (m : Int) + (j : Int) - (i : Int) = ((m + j - i : Nat) : Int) := by omega
      have hcon := HC.out d wr (m - i) (m + j - i) i hds S1.out (by omega) (by omega)
      have HR2 : Hid (∀ d'', Rot (m - i) m (m + (j - i)) (swapR (m - i) (m + j - i) i d) d'' → Rot a m b dk d'') := fun d'' h => HR.out d'' (Rot.right c him (by omega) h)
      have hs2 : (swapR (m - i) (m + j - i) i d).size = dk.size := (swapR_size _ _ _ _).trans hds
      generalize swapR (m - i) (m + j - i) i d = d2 at hcon HR2 hs2
      clear HR S1
      have k1 : ((i : Int) == (j : Int)) = false := by simp; omega
      have k2 : ¬ (j : Int) < (i : Int) := by omega
      go_wp2_with fail
      refine hcon.mono ?_
      rintro e w1 ⟨rfl, S2⟩
      go_wp2
      go_roundg (i + (j - i))
      case measure => omega
      case rel => exact ⟨i, j - i, d2, rfl, by go_num, hi, by omega, him, by omega, Nat.le_refl _, hs2, HR2, S2⟩
    · subst c
      have e1 : (m : Int) - (i : Int) = ((m - i : Nat) : Int) := by omega
      have hcon := HC.out d wr (m - i) m i hds S1.out (by omega) (by omega)
      have HR2 : Hid (Rot a m b dk (swapR (m - i) m i d)) := HR.out _ (Rot.last him (by omega))
      generalize swapR (m - i) m i d = d2 at hcon HR2
      clear HR S1
      go_wp2_with fail
      refine hcon.mono ?_
      rintro e w1 ⟨rfl, S2⟩
      go_wp2
      go_end0
      exact ⟨rfl, d2, HR2.out, S2⟩
    · have e1 : (m : Int) - (i : Int) = ((m - i : Nat) : Int) := by omega
      have hcon := HC.out d wr (m - i) m j hds S1.out (by omega) (by omega)
      have HR2 : Hid (∀ d'', Rot (m - (i - j)) m (m + j) (swapR (m - i) m j d) d'' → Rot a m b dk d'') := fun d'' h => HR.out d'' (Rot.left c him (by omega) h)
      have hs2 : (swapR (m - i) m j d).size = dk.size := (swapR_size _ _ _ _).trans hds
      generalize swapR (m - i) m j d = d2 at hcon HR2 hs2
      clear HR S1
      have k1 : ((i : Int) == (j : Int)) = false := by simp; omega
      have k2 : (j : Int) < (i : Int) := by omega
      go_wp2_with fail
      refine hcon.mono ?_
      rintro e w1 ⟨rfl, S2⟩
      go_wp2
      go_roundg (i - j + j)
      case measure => omega
      case rel => exact ⟨i - j, j, d2, by go_num, rfl, by omega, hj, by omega, hjm, Nat.le_refl _, hs2, HR2, S2⟩

end Go.Proofs.YtlahfffgmfjpaaaGreatDoor
