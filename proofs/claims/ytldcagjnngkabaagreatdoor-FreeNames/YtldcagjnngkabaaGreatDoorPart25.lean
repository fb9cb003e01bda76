/-
  Plain arithmetic of the moments at which something comes free: put together, rising, each once; the least one from which something is free; the last. No program is walked here.
-/
import Derived.Test.YtldcagjnngkabaaGreatDoorPart16
namespace Go.Proofs.YtldcagjnngkabaaGreatDoor
open Go Go.RowKit Go.Shelf

/-- The slots of a machine's calendars, one behind another. -/
def slotsY (ns ls : List (List Slt)) : List Slt := ns.flatten ++ ls.flatten
theorem slotsY_mem {ns ls : List (List Slt)} {s : Slt} : s ∈ slotsY ns ls ↔ (∃ c ∈ ns, s ∈ c) ∨ ∃ c ∈ ls, s ∈ c := by simp [slotsY, List.mem_flatten]
theorem mays_slot {cs : List (List Slt)} (h : maysC cs = true) {c : List Slt} (hc : c ∈ cs) {s : Slt} (hs : s ∈ c) : maySl s := by
  obtain ⟨k, hk, rfl⟩ := List.mem_iff_getElem.1 hc
  have := maysC_may h k
  rw [List.getD_eq_getElem?_getD, List.getElem?_eq_getElem hk] at this
  exact this.1 s hs
theorem slotsY_may {ns ls : List (List Slt)} (hn : maysC ns = true) (hl : maysC ls = true) {s : Slt} (hs : s ∈ slotsY ns ls) : maySl s := by
  rcases slotsY_mem.1 hs with ⟨c, hc, h⟩ | ⟨c, hc, h⟩
  · exact mays_slot hn hc h
  · exact mays_slot hl hc h

/-- Rising, each once. -/
def UpI (l : List Int) : Prop := l.Pairwise (· < ·)
theorem up_ext : ∀ {a b : List Int}, UpI a → UpI b → (∀ x, x ∈ a ↔ x ∈ b) → a = b
  | [], [], _, _, _ => rfl
  | [], y :: b, _, _, h => by have := (h y).2 (by simp); simp at this
  | x :: a, [], _, _, h => by have := (h x).1 (by simp); simp at this
  | x :: a, y :: b, ha, hb, h => by
    have ha1 := (List.pairwise_cons.1 ha).1
    have hb1 := (List.pairwise_cons.1 hb).1
    have hxy : x = y := by
      rcases List.mem_cons.1 ((h x).1 (by simp)) with e | e
      · exact e
      · rcases List.mem_cons.1 ((h y).2 (by simp)) with e2 | e2
        · exact e2.symm
        · have := hb1 x e; have := ha1 y e2; omega
    subst hxy
    congr 1
    refine up_ext (List.pairwise_cons.1 ha).2 (List.pairwise_cons.1 hb).2 fun z => ⟨fun hz => ?_, fun hz => ?_⟩
    · rcases List.mem_cons.1 ((h z).1 (List.mem_cons_of_mem _ hz)) with e | e
      · have := ha1 z hz; omega
      · exact e
    · rcases List.mem_cons.1 ((h z).2 (List.mem_cons_of_mem _ hz)) with e | e
      · have := hb1 z hz; omega
      · exact e

/-- A rising list with one more, if it is not there. -/
def insI (n : Int) : List Int → List Int
  | [] => [n]
  | x :: r => if n < x then n :: x :: r else if n = x then x :: r else x :: insI n r
theorem insI_mem {n x : Int} : ∀ {l : List Int}, x ∈ insI n l ↔ x = n ∨ x ∈ l
  | [] => by simp [insI]
  | y :: r => by
    unfold insI
    split
    · simp
    · split
      · rename_i h; subst h; simp
      · rw [List.mem_cons, insI_mem, List.mem_cons]
        constructor
        · rintro (h | h | h)
          · exact .inr (.inl h)
          · exact .inl h
          · exact .inr (.inr h)
        · rintro (h | h | h)
          · exact .inr (.inl h)
          · exact .inl h
          · exact .inr (.inr h)
theorem insI_up {n : Int} : ∀ {l : List Int}, UpI l → UpI (insI n l)
  | [], _ => by simp [insI, UpI]
  | y :: r, h => by
    have h1 := (List.pairwise_cons.1 h).1
    have h2 := (List.pairwise_cons.1 h).2
    unfold insI
    split
    · rename_i hlt
      refine List.pairwise_cons.2 ⟨fun z hz => ?_, h⟩
      rcases List.mem_cons.1 hz with rfl | hz
      · exact hlt
      · have := h1 z hz; omega
    · split
      · exact h
      · rename_i hlt hne
        refine List.pairwise_cons.2 ⟨fun z hz => ?_, insI_up h2⟩
        rcases insI_mem.1 hz with rfl | hz
        · omega
        · exact h1 z hz
theorem insI_in {n : Int} : ∀ {l : List Int}, UpI l → n ∈ l → insI n l = l
  | y :: r, h, hn => by
    have h1 := (List.pairwise_cons.1 h).1
    unfold insI
    rcases List.mem_cons.1 hn with rfl | hn
    · simp
    · have := h1 n hn
      rw [if_neg (by omega), if_neg (by omega), insI_in (List.pairwise_cons.1 h).2 hn]
theorem insI_end {n : Int} : ∀ {l : List Int}, (∀ y ∈ l, y < n) → insI n l = l ++ [n]
  | [], _ => rfl
  | y :: r, h => by
    have := h y (by simp)
    unfold insI
    rw [if_neg (by omega), if_neg (by omega), insI_end fun z hz => h z (List.mem_cons_of_mem _ hz)]
    rfl
theorem insI_new {n x : Int} (hx : n < x) : ∀ {l : List Int}, (∀ y ∈ l, y < n) → insI n (l ++ [x]) = l ++ [n] ++ [x]
  | [], _ => by simp [insI, hx]
  | y :: r, h => by
    have := h y (by simp)
    rw [List.cons_append]
    unfold insI
    rw [if_neg (by omega), if_neg (by omega), insI_new hx fun z hz => h z (List.mem_cons_of_mem _ hz)]
    simp
theorem insI_more {n x : Int} : ∀ {l : List Int}, (∃ y ∈ l, n ≤ y) → insI n (l ++ [x]) = insI n l ++ [x]
  | [], h => by obtain ⟨y, hy, _⟩ := h; cases hy
  | y :: r, h => by
    rw [List.cons_append]
    unfold insI
    split
    · rfl
    · split
      · rfl
      · rename_i h1 h2
        obtain ⟨z, hz, hzn⟩ := h
        rcases List.mem_cons.1 hz with rfl | hz
        · omega
        · rw [insI_more ⟨z, hz, hzn⟩]; rfl
theorem insI_len (n : Int) : ∀ l : List Int, (insI n l).length ≤ l.length + 1
  | [] => by simp [insI]
  | y :: r => by
    unfold insI
    split
    · simp
    · split
      · simp
      · have := insI_len n r; simp only [List.length_cons]; omega

/-- The Tos of those slots that p asks for, put to a rising list. -/
def gathT (p : Slt → Bool) (l : List Int) (sl : List Slt) : List Int := sl.foldl (fun l s => if p s then insI s.2.1 l else l) l
theorem gathT_snoc (p : Slt → Bool) (l : List Int) (sl : List Slt) (s : Slt) : gathT p l (sl ++ [s]) = if p s then insI s.2.1 (gathT p l sl) else gathT p l sl := by simp [gathT, List.foldl_append]
theorem gathT_mem {p : Slt → Bool} {x : Int} : ∀ {sl : List Slt} {l : List Int}, x ∈ gathT p l sl ↔ x ∈ l ∨ ∃ s ∈ sl, p s = true ∧ s.2.1 = x
  | [], l => by simp [gathT]
  | s :: r, l => by
    show x ∈ gathT p (if p s then insI s.2.1 l else l) r ↔ _
    rw [gathT_mem]
    cases hp : p s
    · simp [hp]
    · simp only [if_true, insI_mem, List.mem_cons, exists_eq_or_imp, hp, true_and]
      constructor
      · rintro ((h | h) | h)
        · exact .inr (.inl h.symm)
        · exact .inl h
        · exact .inr (.inr h)
      · rintro (h | h | h)
        · exact .inl (.inr h)
        · exact .inl (.inl h.symm)
        · exact .inr h
theorem gathT_up {p : Slt → Bool} : ∀ {sl : List Slt} {l : List Int}, UpI l → UpI (gathT p l sl)
  | [], _, h => h
  | s :: r, l, h => by
    show UpI (gathT p (if p s then insI s.2.1 l else l) r)
    refine gathT_up ?_
    split
    · exact insI_up h
    · exact h
theorem gathT_len (p : Slt → Bool) : ∀ (sl : List Slt) (l : List Int), (gathT p l sl).length ≤ l.length + sl.length
  | [], l => by simp [gathT]
  | s :: r, l => by
    have h := gathT_len p r (if p s then insI s.2.1 l else l)
    have h2 : (if p s then insI s.2.1 l else l).length ≤ l.length + 1 := by
      split
      · exact insI_len _ _
      · omega
    show (gathT p (if p s then insI s.2.1 l else l) r).length ≤ _
    rw [List.length_cons]
    omega
/-- From a moment on those at which something comes free. -/
def timeP (from' : Int) (s : Slt) : Bool := decide (from' < s.2.1) && decide (s.2.1 < 1099511627776)
def timesT (from' : Int) (sl : List Slt) : List Int := gathT (timeP from') [from'] sl
theorem timesT_mem {from' x : Int} {sl : List Slt} : x ∈ timesT from' sl ↔ x = from' ∨ (from' < x ∧ x < 1099511627776 ∧ ∃ s ∈ sl, s.2.1 = x) := by
  unfold timesT
  rw [gathT_mem]
  simp only [List.mem_singleton, timeP, Bool.and_eq_true, decide_eq_true_eq]
  constructor
  · rintro (h | ⟨s, hs, h, rfl⟩)
    · exact .inl h
    · exact .inr ⟨h.1, h.2, s, hs, rfl⟩
  · rintro (h | ⟨h1, h2, s, hs, rfl⟩)
    · exact .inl h
    · exact .inr ⟨s, hs, ⟨h1, h2⟩, rfl⟩
theorem timesT_up (from' : Int) (sl : List Slt) : UpI (timesT from' sl) := gathT_up (by simp [UpI])
/-- An owner's ends. -/
def endsT (o : Int) (sl : List Slt) : List Int := gathT (fun s => decide (s.2.2 = o)) [] sl
theorem endsT_mem {o x : Int} {sl : List Slt} : x ∈ endsT o sl ↔ ∃ s ∈ sl, s.2.2 = o ∧ s.2.1 = x := by
  unfold endsT
  rw [gathT_mem]
  simp
theorem endsT_up (o : Int) (sl : List Slt) : UpI (endsT o sl) := gathT_up List.Pairwise.nil
/-- The later of a moment and a slot's To. -/
def maxS (m : Int) (s : Slt) : Int := if m < s.2.1 then s.2.1 else m
theorem maxS_is (m : Int) (s : Slt) : m ≤ maxS m s ∧ s.2.1 ≤ maxS m s ∧ (maxS m s = m ∨ maxS m s = s.2.1) := by
  unfold maxS
  split
  · exact ⟨by omega, by omega, .inr rfl⟩
  · exact ⟨by omega, by omega, .inl rfl⟩
/-- The last moment at which something comes free. -/
def lastT (sl : List Slt) : Int := sl.foldl maxS 0
theorem lastT_snoc (sl : List Slt) (s : Slt) : lastT (sl ++ [s]) = maxS (lastT sl) s := by simp [lastT, List.foldl_append]
theorem lastT_all (sl : List Slt) : ∀ m : Int, m ≤ sl.foldl maxS m ∧ (∀ s ∈ sl, s.2.1 ≤ sl.foldl maxS m) ∧ (sl.foldl maxS m = m ∨ ∃ s ∈ sl, s.2.1 = sl.foldl maxS m) := by
  induction sl with
  | nil => exact fun m => ⟨Int.le_refl _, fun s hs => (by cases hs), .inl rfl⟩
  | cons s r ih =>
    intro m
    obtain ⟨h1, h2, h3⟩ := ih (maxS m s)
    obtain ⟨a, b, c⟩ := maxS_is m s
    rw [List.foldl_cons]
    refine ⟨Int.le_trans a h1, fun x hx => ?_, ?_⟩
    · rcases List.mem_cons.1 hx with rfl | hx
      · exact Int.le_trans b h1
      · exact h2 x hx
    · rcases h3 with h3 | ⟨x, hx, h3⟩
      · rcases c with c | c
        · exact .inl (by rw [h3, c])
        · exact .inr ⟨s, by simp, by rw [h3, c]⟩
      · exact .inr ⟨x, List.mem_cons_of_mem _ hx, h3⟩
theorem lastT_ge {sl : List Slt} {s : Slt} (h : s ∈ sl) : s.2.1 ≤ lastT sl := (lastT_all sl 0).2.1 s h
theorem lastT_pos (sl : List Slt) : 0 ≤ lastT sl := (lastT_all sl 0).1
theorem lastT_at {sl : List Slt} (h : 0 < lastT sl) : ∃ s ∈ sl, s.2.1 = lastT sl := by
  rcases (lastT_all sl 0).2.2 with e | e
  · unfold lastT at h; rw [e] at h; omega
  · exact e

theorem cal_mem {cs : List (List Slt)} {k : Nat} {s : Slt} (h : s ∈ cs.getD k []) : ∃ c ∈ cs, s ∈ c := by
  by_cases hk : k < cs.length
  · rw [List.getD_eq_getElem?_getD, List.getElem?_eq_getElem hk] at h
    exact ⟨_, List.getElem_mem hk, h⟩
  · rw [List.getD_eq_getElem?_getD, List.getElem?_eq_none (by omega)] at h
    cases h
theorem busy_no {cs : List (List Slt)} (hm : maysC cs = true) {f t : Int} (h : f < t) (k : Nat) : busyP cs f t k = false ↔ ∀ s ∈ cs.getD k [], t ≤ s.1 ∨ s.2.1 ≤ f := by
  unfold busyP
  rw [Bool.not_eq_false', clearC_iff (mayC_fine (maysC_may hm k)) h]
/-- The last of Times up to a moment. -/
theorem times_last {from' at' : Int} (sl : List Slt) (h : from' ≤ at') (hM : at' < 1099511627776) : ∃ n ∈ timesT from' sl, n ≤ at' ∧ ∀ s ∈ sl, s.2.1 ≤ at' → s.2.1 ≤ n := by
  obtain ⟨n, ⟨h1, h2⟩, h3, h4⟩ := cand_last from' at' h sl
  refine ⟨n, timesT_mem.2 ?_, h3, h4⟩
  rcases h2 with rfl | ⟨s, hs, rfl⟩
  · exact .inl rfl
  · by_cases e : s.2.1 = from'
    · exact .inl e
    · exact .inr ⟨by omega, by omega, s, hs, rfl⟩
/-- THE STAGE'S THEOREM: what is free from a moment on is so from one of Times' on that is not later. -/
theorem when_least {ns ls : List (List Slt)} (hn : maysC ns = true) (hl : maysC ls = true) {p q : Nat → Bool} {from' at' long : Int} (h : from' ≤ at') (hM : at' < 1099511627776) (h1 : 1 ≤ long)
    (hp : ∀ k, p k = true → busyP ns at' (at' + long) k = false) (hq : ∀ k, q k = true → busyP ls at' (at' + long) k = false) :
    ∃ n ∈ timesT from' (slotsY ns ls), n ≤ at' ∧ (∀ k, p k = true → busyP ns n (n + long) k = false) ∧ ∀ k, q k = true → busyP ls n (n + long) k = false := by
  obtain ⟨n, hn1, hn2, hn3⟩ := times_last (slotsY ns ls) h hM
  refine ⟨n, hn1, hn2, fun k hk => ?_, fun k hk => ?_⟩
  · have := (busy_no hn (by omega) k).1 (hp k hk)
    refine (busy_no hn (by omega) k).2 fun s hs => ?_
    have h2 := this s hs
    by_cases e : s.2.1 ≤ at'
    · exact .inr (hn3 s (slotsY_mem.2 (.inl (cal_mem hs))) e)
    · left; omega
  · have := (busy_no hl (by omega) k).1 (hq k hk)
    refine (busy_no hl (by omega) k).2 fun s hs => ?_
    have h2 := this s hs
    by_cases e : s.2.1 ≤ at'
    · exact .inr (hn3 s (slotsY_mem.2 (.inr (cal_mem hs))) e)
    · left; omega
/-- From the last moment on nothing is busy. -/
theorem last_free {ns ls : List (List Slt)} (hn : maysC ns = true) (hl : maysC ls = true) (hM : lastT (slotsY ns ls) < 1099511627776) (k : Nat) :
    busyP ns (lastT (slotsY ns ls)) 1099511627776 k = false ∧ busyP ls (lastT (slotsY ns ls)) 1099511627776 k = false := by
  refine ⟨(busy_no hn hM k).2 fun s hs => .inr (lastT_ge (slotsY_mem.2 (.inl (cal_mem hs)))), (busy_no hl hM k).2 fun s hs => .inr (lastT_ge (slotsY_mem.2 (.inr (cal_mem hs))))⟩
/-- Ahead of it something is. -/
theorem last_busy {ns ls : List (List Slt)} (hn : maysC ns = true) (hl : maysC ls = true) (h0 : 0 < lastT (slotsY ns ls)) :
    (∃ k, k < ns.length ∧ busyP ns (lastT (slotsY ns ls) - 1) (lastT (slotsY ns ls)) k = true) ∨ ∃ k, k < ls.length ∧ busyP ls (lastT (slotsY ns ls) - 1) (lastT (slotsY ns ls)) k = true := by
  have key : ∀ {cs : List (List Slt)}, maysC cs = true → ∀ {c : List Slt} {s : Slt}, c ∈ cs → s ∈ c → s.2.1 = lastT (slotsY ns ls) → ∃ k, k < cs.length ∧ busyP cs (lastT (slotsY ns ls) - 1) (lastT (slotsY ns ls)) k = true := by
    intro cs hm c s hc hs he
    obtain ⟨k, hk, rfl⟩ := List.mem_iff_getElem.1 hc
    refine ⟨k, hk, ?_⟩
    cases e : busyP cs (lastT (slotsY ns ls) - 1) (lastT (slotsY ns ls)) k
    · have := (busy_no hm (by omega) k).1 e s (by rw [List.getD_eq_getElem?_getD, List.getElem?_eq_getElem hk]; exact hs)
      have h2 := (mays_slot hm hc hs).1.2.1
      omega
    · rfl
  obtain ⟨s, hs, he⟩ := lastT_at h0
  rcases slotsY_mem.1 hs with ⟨c, hc, h⟩ | ⟨c, hc, h⟩
  · exact .inl (key hn hc h he)
  · exact .inr (key hl hc h he)
/-- An owner's ends lie within. -/
theorem endsT_in {ns ls : List (List Slt)} (hn : maysC ns = true) (hl : maysC ls = true) {o x : Int} (h : x ∈ endsT o (slotsY ns ls)) : 1 ≤ x ∧ x ≤ lastT (slotsY ns ls) := by
  obtain ⟨s, hs, _, rfl⟩ := endsT_mem.1 h
  have := (slotsY_may hn hl hs).1
  obtain ⟨h1, h2, _⟩ := this
  exact ⟨by omega, lastT_ge hs⟩
theorem ends_times {sl : List Slt} {o x from' : Int} (h : x ∈ endsT o sl) (h1 : from' < x) (h2 : x < 1099511627776) : x ∈ timesT from' sl := by
  obtain ⟨s, hs, _, rfl⟩ := endsT_mem.1 h
  exact timesT_mem.2 (.inr ⟨h1, h2, s, hs, rfl⟩)
theorem up_getD {l : List Int} (h : UpI l) {i j : Nat} (hij : i < j) (hj : j < l.length) : l.getD i 0 < l.getD j 0 := by
  have := List.pairwise_iff_getElem.1 h i j (by omega) hj hij
  simpa [List.getD_eq_getElem?_getD, show i < l.length by omega, hj] using this
theorem ofList_mem {l : List Int} {i : Nat} (h : i < l.length) : l.getD i 0 ∈ l := by
  simp [List.getD_eq_getElem?_getD, h]
theorem times_pos (from' : Int) (sl : List Slt) : 0 < (timesT from' sl).length := List.length_pos_of_mem (timesT_mem.2 (.inl rfl))
theorem times_head (from' : Int) (sl : List Slt) : (timesT from' sl).getD 0 0 = from' := by
  obtain ⟨i, hi, e⟩ := List.mem_iff_getElem.1 (timesT_mem (sl := sl).2 (.inl (rfl : from' = from')))
  have h0 := ofList_mem (times_pos from' sl)
  rcases timesT_mem.1 h0 with h | ⟨h, _⟩
  · exact h
  · by_cases e0 : i = 0
    · subst e0; simp [List.getD_eq_getElem?_getD, hi, e]
    · have := up_getD (timesT_up from' sl) (i := 0) (j := i) (by omega) hi
      rw [List.getD_eq_getElem?_getD (l := timesT from' sl) (i := i), List.getElem?_eq_getElem hi, Option.getD_some, e] at this
      omega
theorem times_end {from' : Int} {sl : List Slt} (h1 : from' < lastT sl) (h2 : lastT sl < 1099511627776) (h0 : 0 ≤ from') : (timesT from' sl).getD ((timesT from' sl).length - 1) 0 = lastT sl := by
  obtain ⟨s, hs, he⟩ := lastT_at (sl := sl) (by omega)
  have hin : lastT sl ∈ timesT from' sl := timesT_mem.2 (.inr ⟨h1, h2, s, hs, he⟩)
  obtain ⟨i, hi, e⟩ := List.mem_iff_getElem.1 hin
  have hl := ofList_mem (l := timesT from' sl) (i := (timesT from' sl).length - 1) (by omega)
  have hle : (timesT from' sl).getD ((timesT from' sl).length - 1) 0 ≤ lastT sl := by
    rcases timesT_mem.1 hl with h | ⟨_, _, s, hs, h⟩
    · omega
    · rw [← h]; exact lastT_ge hs
  by_cases e0 : i = (timesT from' sl).length - 1
  · rw [← e0, List.getD_eq_getElem?_getD, List.getElem?_eq_getElem hi, Option.getD_some, e]
  · have := up_getD (timesT_up from' sl) (i := i) (j := (timesT from' sl).length - 1) (by omega) (by omega)
    rw [List.getD_eq_getElem?_getD (l := timesT from' sl) (i := i), List.getElem?_eq_getElem hi, Option.getD_some, e] at this
    omega

end Go.Proofs.YtldcagjnngkabaaGreatDoor

/-
  Plain arithmetic of the least moment at which something is free (ahead of layer 11): the first of Times' that serves; it is the least of all; longer, later: not sooner. No program is walked here.
-/
namespace Go.Proofs.YtldcagjnngkabaaGreatDoor
open Go Go.RowKit Go.Shelf

/-- Nothing that is asked for (p of midplanes, q of cables) is busy through a span. -/
def freeP (ns ls : List (List Slt)) (p q : Nat → Bool) (f t : Int) : Bool := ((List.range ns.length).all fun k => !(p k && busyP ns f t k)) && (List.range ls.length).all fun k => !(q k && busyP ls f t k)
theorem busy_out {cs : List (List Slt)} (hm : maysC cs = true) {f t : Int} (h : f < t) {k : Nat} (hk : ¬ k < cs.length) : busyP cs f t k = false := by
  refine (busy_no hm h k).2 fun s hs => ?_
  rw [List.getD_eq_getElem?_getD, List.getElem?_eq_none (by omega)] at hs
  cases hs
theorem freeP_iff {ns ls : List (List Slt)} (hn : maysC ns = true) (hl : maysC ls = true) {p q : Nat → Bool} {f t : Int} (h : f < t) :
    freeP ns ls p q f t = true ↔ (∀ k, p k = true → busyP ns f t k = false) ∧ ∀ k, q k = true → busyP ls f t k = false := by
  unfold freeP
  simp only [Bool.and_eq_true, List.all_eq_true, List.mem_range, Bool.not_eq_true', Bool.and_eq_false_iff]
  constructor
  · rintro ⟨a, b⟩
    refine ⟨fun k hk => ?_, fun k hk => ?_⟩
    · by_cases hx : k < ns.length
      · rcases a k hx with e | e
        · rw [hk] at e; cases e
        · exact e
      · exact busy_out hn h hx
    · by_cases hx : k < ls.length
      · rcases b k hx with e | e
        · rw [hk] at e; cases e
        · exact e
      · exact busy_out hl h hx
  · rintro ⟨a, b⟩
    refine ⟨fun k _ => ?_, fun k _ => ?_⟩
    · cases e : p k
      · exact .inl rfl
      · exact .inr (a k e)
    · cases e : q k
      · exact .inl rfl
      · exact .inr (b k e)
/-- Free through a span: so through one within. -/
theorem freeP_within {ns ls : List (List Slt)} (hn : maysC ns = true) (hl : maysC ls = true) {p q : Nat → Bool} {f t f' t' : Int} (h : f < t) (h' : f' ≤ f ∧ t ≤ t') (hf : freeP ns ls p q f' t' = true) : freeP ns ls p q f t = true := by
  obtain ⟨a, b⟩ := (freeP_iff hn hl (by omega)).1 hf
  refine (freeP_iff hn hl h).2 ⟨fun k hk => ?_, fun k hk => ?_⟩
  · cases e : busyP ns f t k
    · rfl
    · have := busy_within hn h h' e
      rw [a k hk] at this
      cases this
  · cases e : busyP ls f t k
    · rfl
    · have := busy_within hl h h' e
      rw [b k hk] at this
      cases this

/-- A moment serves: so long fits ahead of the last one, and nothing is busy. -/
def servesP (ns ls : List (List Slt)) (p q : Nat → Bool) (long : Int) (m : Int) : Bool := decide (long ≤ 1099511627776 - m) && freeP ns ls p q m (m + long)
theorem servesP_iff {ns ls : List (List Slt)} {p q : Nat → Bool} {long m : Int} : servesP ns ls p q long m = true ↔ m + long ≤ 1099511627776 ∧ freeP ns ls p q m (m + long) = true := by
  unfold servesP
  rw [Bool.and_eq_true, decide_eq_true_eq]
  constructor
  · rintro ⟨a, b⟩; exact ⟨by omega, b⟩
  · rintro ⟨a, b⟩; exact ⟨by omega, b⟩
/-- The first of a list that serves. -/
def soonT (ns ls : List (List Slt)) (p q : Nat → Bool) (from' long : Int) : Option Int := (timesT from' (slotsY ns ls)).find? (servesP ns ls p q long)

theorem find_least {g : Int → Bool} : ∀ {l : List Int}, UpI l → ∀ {m : Int}, m ∈ l → g m = true → ∃ n, l.find? g = some n ∧ n ≤ m
  | x :: l, h, m, hm, hg => by
    rw [List.find?_cons]
    cases e : g x
    · rcases List.mem_cons.1 hm with rfl | hm
      · rw [hg] at e; cases e
      · exact find_least (List.pairwise_cons.1 h).2 hm hg
    · refine ⟨x, rfl, ?_⟩
      rcases List.mem_cons.1 hm with rfl | hm
      · exact Int.le_refl _
      · have := (List.pairwise_cons.1 h).1 m hm; omega
/-- Where any moment serves, one is told, no later. -/
theorem soon_at {ns ls : List (List Slt)} (hn : maysC ns = true) (hl : maysC ls = true) {p q : Nat → Bool} {from' long o : Int} (h1 : 1 ≤ long) (h : from' ≤ o) (ho : servesP ns ls p q long o = true) : ∃ n, soonT ns ls p q from' long = some n ∧ n ≤ o := by
  obtain ⟨ha, hb⟩ := servesP_iff.1 ho
  obtain ⟨hp, hq⟩ := (freeP_iff hn hl (by omega)).1 hb
  obtain ⟨m, hm, hmo, hmp, hmq⟩ := when_least hn hl h (by omega) h1 hp hq
  obtain ⟨n, e, hle⟩ := find_least (timesT_up from' (slotsY ns ls)) hm (servesP_iff.2 ⟨by omega, (freeP_iff hn hl (by omega)).2 ⟨hmp, hmq⟩⟩)
  exact ⟨n, e, by omega⟩
/-- What is told serves, and none ahead of it does. -/
theorem soon_some {ns ls : List (List Slt)} (hn : maysC ns = true) (hl : maysC ls = true) {p q : Nat → Bool} {from' long n : Int} (h1 : 1 ≤ long) (e : soonT ns ls p q from' long = some n) :
    from' ≤ n ∧ servesP ns ls p q long n = true ∧ ∀ o, from' ≤ o → o < n → servesP ns ls p q long o = false := by
  have hs := List.find?_some e
  have hm := List.mem_of_find?_eq_some e
  refine ⟨?_, hs, fun o h2 h3 => ?_⟩
  · rcases timesT_mem.1 hm with h | h
    · omega
    · omega
  · cases eo : servesP ns ls p q long o
    · rfl
    · obtain ⟨n', e', hle⟩ := soon_at hn hl h1 h2 eo
      rw [e] at e'
      cases e'
      omega
/-- Where none is told none serves. -/
theorem soon_none {ns ls : List (List Slt)} (hn : maysC ns = true) (hl : maysC ls = true) {p q : Nat → Bool} {from' long : Int} (h1 : 1 ≤ long) (e : soonT ns ls p q from' long = none) {o : Int} (h : from' ≤ o) : servesP ns ls p q long o = false := by
  cases eo : servesP ns ls p q long o
  · rfl
  · obtain ⟨n', e', _⟩ := soon_at hn hl h1 h eo
    rw [e] at e'
    cases e'
/-- A longer one is not free sooner, -/
theorem soon_longer {ns ls : List (List Slt)} (hn : maysC ns = true) (hl : maysC ls = true) {p q : Nat → Bool} {from' long more n a : Int} (h1 : 1 ≤ long) (h2 : 0 ≤ more) (e : soonT ns ls p q from' long = some n) (ea : soonT ns ls p q from' (long + more) = some a) : n ≤ a := by
  obtain ⟨x1, x2, x3⟩ := soon_some hn hl (by omega) ea
  obtain ⟨y1, y2, y3⟩ := soon_some hn hl h1 e
  obtain ⟨z1, z2⟩ := servesP_iff.1 x2
  by_cases h : a < n
  · have := y3 a x1 h
    rw [servesP_iff.2 ⟨by omega, freeP_within hn hl (by omega) ⟨Int.le_refl _, by omega⟩ z2⟩] at this
    cases this
  · omega
/-- nor one from a later moment on. -/
theorem soon_later {ns ls : List (List Slt)} (hn : maysC ns = true) (hl : maysC ls = true) {p q : Nat → Bool} {from' long more n b : Int} (h1 : 1 ≤ long) (h2 : 0 ≤ more) (e : soonT ns ls p q from' long = some n) (eb : soonT ns ls p q (from' + more) long = some b) : n ≤ b := by
  obtain ⟨x1, x2, x3⟩ := soon_some hn hl h1 eb
  obtain ⟨y1, y2, y3⟩ := soon_some hn hl h1 e
  by_cases h : b < n
  · have := y3 b (by omega) h
    rw [x2] at this
    cases this
  · omega

end Go.Proofs.YtldcagjnngkabaaGreatDoor
