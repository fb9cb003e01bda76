/-
  Plain arithmetic of the least moment at which something is free (ahead of layer 11): the first of Times' that serves; it is the least of all; longer, later: not sooner. No program is walked here.
-/
import Derived.Test.YtldcagjnngkabaaGreatDoorPart16
import Derived.Test.YtldcagjnngkabaaGreatDoorPart10
import Derived.Test.YtldcagjnngkabaaGreatDoorPart12
import Derived.Test.YtldcagjnngkabaaGreatDoorPart4
import Derived.Test.YtldcagjnngkabaaGreatDoorPart5
import Derived.Shelf.SlSortCmp.NoneTotal
import Derived.Shelf.Lay
import Derived.Ground.SlsfProg
import Derived.Test.YtldcagjnngkabaaGreatDoorPart1
import Derived.Test.YtldcagjnngkabaaGreatDoorPart13
namespace Go.Proofs.YtldcagjnngkabaaGreatDoor
open Go Go.RowKit Go.Shelf

/-- Nothing that is asked for (p of midplanes, q of cables) is busy through a span. -/
def freeP (ns ls : List (List Slt)) (p q : Nat → Bool) (f t : Int) : Bool := ((List.range ns.length).all fun k => !(p k && busyP ns f t k)) && (List.range ls.length).all fun k => !(q k && busyP ls f t k)
theorem busy_out {cs : List (List Slt)} (hm : maysC cs = true) {f t : Int} (h : f < t) {k : Nat} (hk : ¬ k < cs.length) : busyP cs f t k = false := by
  refine (busy_no hm h k).2 fun s hs => ?_
  rw [List.getD_eq_getElem?_getD, List.getElem?_eq_none (by omega)] at hs
  cases hs
theorem freeP_iff {ns ls : List (List Slt)} (hn : maysC ns = true) (hl : maysC ls = true) {p q : Nat → Bool} {f t : Int} (h : f < t) :
    freeP ns ls p q f t = true ↔ (∀ k, p k = true → busyP ns f t k = false) ∧ ∀ k, q k = true → busyP ls f t k = false := by
  unfold freeP
  simp only [Bool.and_eq_true, List.all_eq_true, List.mem_range, Bool.not_eq_true', Bool.and_eq_false_iff]
  constructor
  · rintro ⟨a, b⟩
    refine ⟨fun k hk => ?_, fun k hk => ?_⟩
    · by_cases hx : k < ns.length
      · rcases a k hx with e | e
        · rw [hk] at e; cases e
        · exact e
      · exact busy_out hn h hx
    · by_cases hx : k < ls.length
      · rcases b k hx with e | e
        · rw [hk] at e; cases e
        · exact e
      · exact busy_out hl h hx
  · rintro ⟨a, b⟩
    refine ⟨fun k _ => ?_, fun k _ => ?_⟩
    · cases e : p k
      · exact .inl rfl
      · exact .inr (a k e)
    · cases e : q k
      · exact .inl rfl
      · exact .inr (b k e)
/-- Free through a span: so through one within. -/
theorem freeP_within {ns ls : List (List Slt)} (hn : maysC ns = true) (hl : maysC ls = true) {p q : Nat → Bool} {f t f' t' : Int} (h : f < t) (h' : f' ≤ f ∧ t ≤ t') (hf : freeP ns ls p q f' t' = true) : freeP ns ls p q f t = true := by
  obtain ⟨a, b⟩ := (freeP_iff hn hl (by omega)).1 hf
  refine (freeP_iff hn hl h).2 ⟨fun k hk => ?_, fun k hk => ?_⟩
  · cases e : busyP ns f t k
    · rfl
    · have := busy_within hn h h' e
      rw [a k hk] at this
      cases this
  · cases e : busyP ls f t k
    · rfl
    · have := busy_within hl h h' e
      rw [b k hk] at this
      cases this

/-- A moment serves: so long fits ahead of the last one, and nothing is busy. -/
def servesP (ns ls : List (List Slt)) (p q : Nat → Bool) (long : Int) (m : Int) : Bool := decide (long ≤ 1099511627776 - m) && freeP ns ls p q m (m + long)
theorem servesP_iff {ns ls : List (List Slt)} {p q : Nat → Bool} {long m : Int} : servesP ns ls p q long m = true ↔ m + long ≤ 1099511627776 ∧ freeP ns ls p q m (m + long) = true := by
  unfold servesP
  rw [Bool.and_eq_true, decide_eq_true_eq]
  constructor
  · rintro ⟨a, b⟩; exact ⟨by omega, b⟩
  · rintro ⟨a, b⟩; exact ⟨by omega, b⟩
/-- The first of a list that serves. -/
def soonT (ns ls : List (List Slt)) (p q : Nat → Bool) (from' long : Int) : Option Int := (timesT from' (slotsY ns ls)).find? (servesP ns ls p q long)

theorem find_least {g : Int → Bool} : ∀ {l : List Int}, UpI l → ∀ {m : Int}, m ∈ l → g m = true → ∃ n, l.find? g = some n ∧ n ≤ m
  | x :: l, h, m, hm, hg => by
    rw [List.find?_cons]
    cases e : g x
    · rcases List.mem_cons.1 hm with rfl | hm
      · rw [hg] at e; cases e
      · exact find_least (List.pairwise_cons.1 h).2 hm hg
    · refine ⟨x, rfl, ?_⟩
      rcases List.mem_cons.1 hm with rfl | hm
      · exact Int.le_refl _
      · have := (List.pairwise_cons.1 h).1 m hm; omega
/-- Where any moment serves, one is told, no later. -/
theorem soon_at {ns ls : List (List Slt)} (hn : maysC ns = true) (hl : maysC ls = true) {p q : Nat → Bool} {from' long o : Int} (h1 : 1 ≤ long) (h : from' ≤ o) (ho : servesP ns ls p q long o = true) : ∃ n, soonT ns ls p q from' long = some n ∧ n ≤ o := by
  obtain ⟨ha, hb⟩ := servesP_iff.1 ho
  obtain ⟨hp, hq⟩ := (freeP_iff hn hl (by omega)).1 hb
  obtain ⟨m, hm, hmo, hmp, hmq⟩ := when_least hn hl h (by omega) h1 hp hq
  obtain ⟨n, e, hle⟩ := find_least (timesT_up from' (slotsY ns ls)) hm (servesP_iff.2 ⟨by omega, (freeP_iff hn hl (by omega)).2 ⟨hmp, hmq⟩⟩)
  exact ⟨n, e, by omega⟩
/-- What is told serves, and none ahead of it does. -/
theorem soon_some {ns ls : List (List Slt)} (hn : maysC ns = true) (hl : maysC ls = true) {p q : Nat → Bool} {from' long n : Int} (h1 : 1 ≤ long) (e : soonT ns ls p q from' long = some n) :
    from' ≤ n ∧ servesP ns ls p q long n = true ∧ ∀ o, from' ≤ o → o < n → servesP ns ls p q long o = false := by
  have hs := List.find?_some e
  have hm := List.mem_of_find?_eq_some e
  refine ⟨?_, hs, fun o h2 h3 => ?_⟩
  · rcases timesT_mem.1 hm with h | h
    · omega
    · omega
  · cases eo : servesP ns ls p q long o
    · rfl
    · obtain ⟨n', e', hle⟩ := soon_at hn hl h1 h2 eo
      rw [e] at e'
      cases e'
      omega
/-- Where none is told none serves. -/
theorem soon_none {ns ls : List (List Slt)} (hn : maysC ns = true) (hl : maysC ls = true) {p q : Nat → Bool} {from' long : Int} (h1 : 1 ≤ long) (e : soonT ns ls p q from' long = none) {o : Int} (h : from' ≤ o) : servesP ns ls p q long o = false := by
  cases eo : servesP ns ls p q long o
  · rfl
  · obtain ⟨n', e', _⟩ := soon_at hn hl h1 h eo
    rw [e] at e'
    cases e'
/-- A longer one is not free sooner, -/
theorem soon_longer {ns ls : List (List Slt)} (hn : maysC ns = true) (hl : maysC ls = true) {p q : Nat → Bool} {from' long more n a : Int} (h1 : 1 ≤ long) (h2 : 0 ≤ more) (e : soonT ns ls p q from' long = some n) (ea : soonT ns ls p q from' (long + more) = some a) : n ≤ a := by
  obtain ⟨x1, x2, x3⟩ := soon_some hn hl (by omega) ea
  obtain ⟨y1, y2, y3⟩ := soon_some hn hl h1 e
  obtain ⟨z1, z2⟩ := servesP_iff.1 x2
  by_cases h : a < n
  · have := y3 a x1 h
    rw [servesP_iff.2 ⟨by omega, freeP_within hn hl (by omega) ⟨Int.le_refl _, by omega⟩ z2⟩] at this
    cases this
  · omega
/-- nor one from a later moment on. -/
theorem soon_later {ns ls : List (List Slt)} (hn : maysC ns = true) (hl : maysC ls = true) {p q : Nat → Bool} {from' long more n b : Int} (h1 : 1 ≤ long) (h2 : 0 ≤ more) (e : soonT ns ls p q from' long = some n) (eb : soonT ns ls p q (from' + more) long = some b) : n ≤ b := by
  obtain ⟨x1, x2, x3⟩ := soon_some hn hl h1 eb
  obtain ⟨y1, y2, y3⟩ := soon_some hn hl h1 e
  by_cases h : b < n
  · have := y3 b (by omega) h
    rw [x2] at this
    cases this
  · omega

end Go.Proofs.YtldcagjnngkabaaGreatDoor

/-
  Plain arithmetic of how the least moment is found: the slots of what is asked for, in the order in which they begin; those that begin ahead of a span's end; whether all of them end by its beginning. No program is walked here.
-/
namespace Go.Proofs.YtldcagjnngkabaaGreatDoor
open Go Go.RowKit Go.Shelf

/-- The slots of those calendars that are asked for, one behind another. -/
def pickS (cs : List (List Slt)) (p : Nat → Bool) : List Slt := ((List.range cs.length).filter p).flatMap fun k => cs.getD k []
theorem pickS_mem {cs : List (List Slt)} {p : Nat → Bool} {s : Slt} : s ∈ pickS cs p ↔ ∃ k, k < cs.length ∧ p k = true ∧ s ∈ cs.getD k [] := by
  unfold pickS
  simp only [List.mem_flatMap, List.mem_filter, List.mem_range]
  constructor
  · rintro ⟨k, ⟨h1, h2⟩, h3⟩; exact ⟨k, h1, h2, h3⟩
  · rintro ⟨k, h1, h2, h3⟩; exact ⟨k, ⟨h1, h2⟩, h3⟩

/-- No slot has any of a span's moments. -/
def clearS (sl : List Slt) (f t : Int) : Bool := sl.all fun s => decide (t ≤ s.1) || decide (s.2.1 ≤ f)
theorem clearS_iff {sl : List Slt} {f t : Int} : clearS sl f t = true ↔ ∀ s ∈ sl, t ≤ s.1 ∨ s.2.1 ≤ f := by
  unfold clearS
  simp only [List.all_eq_true, Bool.or_eq_true, decide_eq_true_eq]
theorem bool_ext {x y : Bool} (h : x = true ↔ y = true) : x = y := by cases x <;> cases y <;> simp at h ⊢
theorem clearS_perm {a b : List Slt} (h : a.Perm b) (f t : Int) : clearS a f t = clearS b f t := by
  refine bool_ext ?_
  rw [clearS_iff, clearS_iff]
  exact ⟨fun k s hs => k s (h.mem_iff.2 hs), fun k s hs => k s (h.mem_iff.1 hs)⟩
theorem free_pick {ns ls : List (List Slt)} (hn : maysC ns = true) (hl : maysC ls = true) (p q : Nat → Bool) {f t : Int} (h : f < t) : freeP ns ls p q f t = clearS (pickS ns p ++ pickS ls q) f t := by
  refine bool_ext ?_
  rw [freeP_iff hn hl h, clearS_iff]
  constructor
  · rintro ⟨a, b⟩ s hs
    rcases List.mem_append.1 hs with hs | hs
    · obtain ⟨k, _, h2, h3⟩ := pickS_mem.1 hs
      exact (busy_no hn h k).1 (a k h2) s h3
    · obtain ⟨k, _, h2, h3⟩ := pickS_mem.1 hs
      exact (busy_no hl h k).1 (b k h2) s h3
  · intro a
    refine ⟨fun k hk => (busy_no hn h k).2 fun s hs => ?_, fun k hk => (busy_no hl h k).2 fun s hs => ?_⟩
    · refine a s (List.mem_append.2 (.inl (pickS_mem.2 ⟨k, ?_, hk, hs⟩)))
      by_cases hx : k < ns.length
      · exact hx
      · rw [List.getD_eq_getElem?_getD, List.getElem?_eq_none (by omega)] at hs; cases hs
    · refine a s (List.mem_append.2 (.inr (pickS_mem.2 ⟨k, ?_, hk, hs⟩)))
      by_cases hx : k < ls.length
      · exact hx
      · rw [List.getD_eq_getElem?_getD, List.getElem?_eq_none (by omega)] at hs; cases hs

/-- A moment serves, over those slots. -/
def fitS (sl : List Slt) (long m : Int) : Bool := decide (long ≤ 1099511627776 - m) && clearS sl m (m + long)
/-- The first of some moments that serves. -/
def firstS (sl : List Slt) (long : Int) (ts : List Int) : Option Int := ts.find? (fitS sl long)
theorem soon_first {ns ls : List (List Slt)} (hn : maysC ns = true) (hl : maysC ls = true) {p q : Nat → Bool} {x long : Int} (h1 : 1 ≤ long) {S : List Slt} (hp : S.Perm (pickS ns p ++ pickS ls q)) : firstS S long (timesT x (slotsY ns ls)) = soonT ns ls p q x long := by
  unfold firstS soonT
  congr 1
  funext m
  unfold fitS servesP
  rw [free_pick hn hl p q (by omega : m < m + long), clearS_perm hp]

theorem first_nil (sl : List Slt) (long : Int) : firstS sl long [] = none := rfl
theorem first_yes {sl : List Slt} {long m : Int} {ts : List Int} (h : fitS sl long m = true) : firstS sl long (m :: ts) = some m := by simp [firstS, h]
theorem first_no {sl : List Slt} {long m : Int} {ts : List Int} (h : fitS sl long m = false) : firstS sl long (m :: ts) = firstS sl long ts := by simp [firstS, h]
/-- Where there is not enough time left behind a moment there is none behind later ones. -/
theorem first_late {sl : List Slt} {long m : Int} {ts : List Int} (hu : UpI (m :: ts)) (h : 1099511627776 - m < long) : firstS sl long (m :: ts) = none := by
  unfold firstS
  rw [List.find?_eq_none]
  intro x hx
  have : m ≤ x := by
    rcases List.mem_cons.1 hx with rfl | hx
    · exact Int.le_refl _
    · have := (List.pairwise_cons.1 hu).1 x hx; omega
  unfold fitS
  rw [decide_eq_false (by omega), Bool.false_and]
  simp

/-- The greatest end of the first k slots. -/
def tipS (S : List Slt) (k : Nat) : Int := (S.take k).foldl (fun e s => max e s.2.1) 0
theorem fold_max {l : List Slt} : ∀ {a m : Int}, l.foldl (fun e s => max e s.2.1) a ≤ m ↔ a ≤ m ∧ ∀ s ∈ l, s.2.1 ≤ m := by
  induction l with
  | nil => intro a m; simp
  | cons y l ih =>
    intro a m
    rw [List.foldl_cons, ih]
    simp only [List.mem_cons, forall_eq_or_imp]
    constructor
    · rintro ⟨h1, h2⟩; exact ⟨by omega, by omega, h2⟩
    · rintro ⟨h1, h2, h3⟩; exact ⟨by omega, h3⟩
theorem tipS_zero (S : List Slt) : tipS S 0 = 0 := rfl
theorem tipS_succ {S : List Slt} {k : Nat} (h : k < S.length) : tipS S (k + 1) = max (tipS S k) (S.getD k (0, 0, 0)).2.1 := by
  unfold tipS
  rw [take_snoc h rfl, List.foldl_append]; rfl
theorem tipS_le {S : List Slt} {k : Nat} {m : Int} : tipS S k ≤ m ↔ 0 ≤ m ∧ ∀ s ∈ S.take k, s.2.1 ≤ m := fold_max

/-- In the order in which they begin. -/
def upS (S : List Slt) : Prop := ∀ i j, i < j → j < S.length → (S.getD i (0, 0, 0)).1 ≤ (S.getD j (0, 0, 0)).1
theorem up_drop {S : List Slt} (hS : upS S) {k : Nat} {t : Int} (he : k < S.length → t ≤ (S.getD k (0, 0, 0)).1) : ∀ s ∈ S.drop k, t ≤ s.1 := by
  intro s hs
  obtain ⟨i, hi, rfl⟩ := List.mem_iff_getElem.1 hs
  rw [List.length_drop] at hi
  rw [List.getElem_drop]
  have h1 := he (by omega)
  have e : S[k + i] = S.getD (k + i) (0, 0, 0) := by rw [List.getD_eq_getElem?_getD, List.getElem?_eq_getElem (by omega)]; rfl
  rw [e]
  by_cases h0 : i = 0
  · subst h0; exact h1
  · have := hS k (k + i) (by omega) (by omega); omega
/-- Behind those that begin ahead of a span's end: they all end by its beginning, just if no slot has any of its moments. -/
theorem soon_test {S : List Slt} (hS : upS S) {k : Nat} {m t : Int} (hb : ∀ s ∈ S.take k, s.1 < t) (he : k < S.length → t ≤ (S.getD k (0, 0, 0)).1) (hm : 0 ≤ m) : decide (tipS S k ≤ m) = clearS S m t := by
  refine bool_ext ?_
  rw [decide_eq_true_eq, tipS_le, clearS_iff]
  constructor
  · rintro ⟨_, h⟩ s hs
    rw [← List.take_append_drop k S] at hs
    rcases List.mem_append.1 hs with hs | hs
    · exact .inr (h s hs)
    · exact .inl (up_drop hS he s hs)
  · intro h
    refine ⟨hm, fun s hs => ?_⟩
    rcases h s (List.mem_of_mem_take hs) with h | h
    · have := hb s hs; omega
    · exact h

end Go.Proofs.YtldcagjnngkabaaGreatDoor

/-
  free.pick: the slots of the calendars whose numbers are chosen; a slice's tail; cmp.Compare at whole numbers.
-/
namespace Go.Proofs.YtldcagjnngkabaaGreatDoor
open Go Go.RowKit Go.Shelf

attribute [local go_sem] Oper.semAt_some ext_const

/-- What some numbers choose. -/
def gotS (cs : List (List Slt)) (L : List Int) : List Slt := L.flatMap fun x => cs.getD x.toNat []
theorem gotS_succ {cs : List (List Slt)} {L : List Int} {j : Nat} (h : j < L.length) : gotS cs (L.take (j + 1)) = gotS cs (L.take j) ++ cs.getD (L.getD j 0).toNat [] := by
  unfold gotS
  rw [List.take_add_one, List.flatMap_append, List.getElem?_eq_getElem h, List.getD_eq_getElem?_getD (l := L), List.getElem?_eq_getElem h]
  simp
theorem flat_sub {α β : Type} {f : α → List β} {a b : List α} (h : a.Sublist b) : (a.flatMap f).length ≤ (b.flatMap f).length := by
  induction h with
  | slnil => exact Nat.le_refl _
  | cons x _ ih => rw [List.flatMap_cons, List.length_append]; omega
  | cons_cons x _ ih => rw [List.flatMap_cons, List.flatMap_cons, List.length_append, List.length_append]; omega
theorem gotS_nums (cs : List (List Slt)) (p : Nat → Bool) (k : Nat) : gotS cs (numsTo p k) = ((List.range k).filter p).flatMap fun k => cs.getD k [] := by
  unfold gotS numsTo ofN
  rw [List.flatMap_map]
  rfl
theorem gotS_all (cs : List (List Slt)) (p : Nat → Bool) : gotS cs (numsTo p cs.length) = pickS cs p := gotS_nums cs p cs.length
theorem range_all (cs : List (List Slt)) : ((List.range cs.length).flatMap fun k => cs.getD k []) = cs.flatten := by
  rw [List.flatMap_def]
  congr 1
  apply List.ext_getElem
  · simp
  · intro i h1 h2
    simp [h2]
theorem gotS_le (cs : List (List Slt)) (p : Nat → Bool) (j : Nat) : (gotS cs ((numsTo p cs.length).take j)).length ≤ cs.flatten.length := by
  have h1 : (gotS cs ((numsTo p cs.length).take j)).length ≤ (gotS cs (numsTo p cs.length)).length := flat_sub (List.take_sublist j _)
  rw [gotS_nums] at h1
  have h2 : (((List.range cs.length).filter p).flatMap fun k => cs.getD k []).length ≤ ((List.range cs.length).flatMap fun k => cs.getD k []).length := flat_sub List.filter_sublist
  rw [range_all] at h2
  omega
theorem pick_le (cs : List (List Slt)) (p : Nat → Bool) : (pickS cs p).length ≤ cs.flatten.length := by
  have h2 : (((List.range cs.length).filter p).flatMap fun k => cs.getD k []).length ≤ ((List.range cs.length).flatMap fun k => cs.getD k []).length := flat_sub List.filter_sublist
  rw [range_all] at h2
  exact h2

set_option maxRecDepth 100000 in
set_option maxHeartbeats 4000000 in
theorem pick_calls {cs : List (List Slt)} {v u : Value} (p : Nat → Bool) (w : World) (hTab : TabOk w) (hS : Yl w v cs) (hU : Wds w u (setOf cs.length p)) (h1 : 1 ≤ cs.length) (h2 : cs.length ≤ 12288) (hf : cs.flatten.length ≤ 50000) :
    Calls Tryz.prog 66 #[v, u] w fun e W' => ∃ r, e = .returned (.tuple #[r, I 0]) ∧ So W' w.heap.size r (pickS cs p) ∧ Below w.heap.size w W' := by
  obtain ⟨ao, cap, rfl, hS⟩ := hS.form
  have HS : Hid (Yl w (.slice ao cs.length cap) cs) := hS
  have HC : Hid (Calls Tryz.prog 109 #[I cs.length, u] w fun e W' => ∃ v, e = .returned (.tuple #[v, I 0]) ∧ Lst W' w.heap.size v (numsTo p cs.length) ∧ Below w.heap.size w W') := by
    have := list_calls w hTab hU cs.length
    rw [setOf_err (by omega) (by omega), setOf_list (by omega) (by omega), Int.toNat_natCast] at this
    exact this
  have HG : Hid (∀ j, j < (numsTo p cs.length).length → gotS cs ((numsTo p cs.length).take (j + 1)) = gotS cs ((numsTo p cs.length).take j) ++ cs.getD ((numsTo p cs.length).getD j 0).toNat []) := fun j h => gotS_succ h
  have HL : Hid (∀ j, j < (numsTo p cs.length).length → ∃ k : Nat, (numsTo p cs.length).getD j 0 = (k : Int) ∧ k < cs.length) := fun j h => by
    have hm : (numsTo p cs.length).getD j 0 ∈ numsTo p cs.length := by
      rw [List.getD_eq_getElem?_getD, List.getElem?_eq_getElem h]
      exact List.getElem_mem h
    obtain ⟨a, b⟩ := numsTo_mem hm
    exact ⟨((numsTo p cs.length).getD j 0).toNat, by omega, by omega⟩
  have HB : Hid (∀ j, (gotS cs ((numsTo p cs.length).take j)).length ≤ 50000) := fun j => by have := gotS_le cs p j; omega
  have HA : Hid (gotS cs ((numsTo p cs.length).take (numsTo p cs.length).length) = pickS cs p) := by
    show _ = _
    rw [List.take_length]; exact gotS_all cs p
  have hnl := numsTo_len p cs.length
  have HZ : Hid (gotS cs ((numsTo p cs.length).take 0) = []) := rfl
  generalize pickS cs p = tgt at *
  generalize numsTo p cs.length = L at *
  clear hS hU hTab hf
  have hnl : L.length ≤ 100000 := by omega
  go_enter Tryz.func66, Tryz.ntmps66
  go_wp2_with fail
  refine HC.out.mono ?_
  rintro e w1 ⟨u1, rfl, hL, hB1⟩
  obtain ⟨a1, c1, rfl, hv1⟩ := hL.its.view
  have HV : Hid (∀ k, k < L.length → ∃ g off, a1 = some ⟨g, off, none⟩ ∧ g < w1.heap.size ∧ w1.cell? ⟨g, off + k, none⟩ = some (I (L.getD k 0))) := hv1
  clear hv1 hL
  go_wp2
  go_loopw [8, 23] (fun s i wr => ∃ j : Nat, j ≤ L.length ∧ i = .int .i64 j ∧ So wr w1.heap.size s (gotS cs (L.take j)) ∧ Below w1.heap.size w1 wr) (fun _ i _ => L.length - (RowKit.intOf i).toNat)
  case atStart => exact ⟨0, by omega, rfl, by rw [HZ.out]; exact So.nil _ _, Below.refl _ _⟩
  case round =>
    obtain ⟨j, hj, rfl, hR, hT⟩ := hrel
    by_cases hlt : (j : Int) < (L.length : Int)
    · have hj' : j < L.length := by omega
      obtain ⟨g, off, rfl, hg, hc⟩ := HV.out j hj'
      have hc := (hT.cell (p := ⟨g, off + j, none⟩) hg).trans hc
      have hg := Nat.lt_of_lt_of_le hg hT.size
      obtain ⟨k, hk, hkl⟩ := HL.out j hj'
      have HGj : Hid (gotS cs (L.take (j + 1)) = gotS cs (L.take j) ++ cs.getD k []) := by
        have := HG.out j hj'
        rw [hk, Int.toNat_natCast] at this
        exact this
      have HBj : Hid ((gotS cs (L.take j)).length + (cs.getD k []).length ≤ 50000) := by
        have := HB.out (j + 1)
        rw [HGj.out, List.length_append] at this
        exact this
      rw [hk] at hc
      obtain ⟨g2, off2, bo, m, cc, rfl, hg2, hcc, hs⟩ := (HS.out.later (then_below hB1 hT)).get hkl
      have hsz := hT.size
      clear hk
      generalize cs.getD k [] = xs at *
      go_wp2_with (at_builtin; refine wpList_catS (base := w1.heap.size) rfl _ _ rfl rfl rfl hR hs (by have := HBj.out; omega) hsz ?_; intro ao5 n5 cap5 w5 hS5 hT5)
      go_roundw
      case rel => exact ⟨j + 1, by omega, by go_num, by rw [HGj.out]; exact hS5, hT.trans hT5⟩
      case measure => simp [RowKit.intOf]; omega
    · obtain rfl : j = L.length := by omega
      rw [HA.out] at hR
      obtain ⟨a4, c4, rfl, _⟩ := hR.ss.form
      clear HG HL HB HA HZ
      go_wp2
      go_ret2
      exact ⟨_, rfl, hR.weak hB1.size, then_below hB1 hT⟩

end Go.Proofs.YtldcagjnngkabaaGreatDoor

/-
  slices.SortFunc over slots, by the moments at which they begin: the same ones, in that order.
-/
namespace Go.Proofs.YtldcagjnngkabaaGreatDoor
open Go Go.Shelf Go.RowKit Go.Lib Go.Sort

shelf_lay_g SlLaysF0.n6 Slsf 6 at Tryz 67 as sortS

attribute [local go_sem] Oper.semAt_some ext_const

def cmpN (x y : Int) : Int := if x < y then -1 else if y < x then 1 else 0
theorem cmpN_cases (x y : Int) : (x < y ∧ cmpN x y = -1) ∨ (y < x ∧ cmpN x y = 1) ∨ (x = y ∧ cmpN x y = 0) := by
  unfold cmpN
  by_cases h : x < y
  · simp [h]
  · by_cases k : y < x
    · simp [h, k]
    · simp [h, k]; omega
def begS (a b : Slt) : Int := cmpN a.1 b.1

set_option maxRecDepth 100000 in
theorem nanN_calls (x : Int) (w : World) : Calls Tryz.prog 112 #[I x] w fun e W' => e = .returned (.bool false) ∧ W' = w := by
  go_enter Tryz.func112, Tryz.ntmps112
  go_wp2
  go_ret
  exact ⟨by simp, rfl⟩
set_option maxRecDepth 100000 in
set_option maxHeartbeats 1000000 in
theorem cmpN_calls (x y : Int) (w : World) : Calls Tryz.prog 69 #[I x, I y] w fun e W' => e = .returned (.int .i64 (cmpN x y)) ∧ W' = w := by
  have hn := nanN_calls
  rcases cmpN_cases x y with ⟨h, e⟩ | ⟨h, e⟩ | ⟨h, e⟩
  · rw [e]
    clear e
    go_enter Tryz.func69, Tryz.ntmps69
    go_wp2_with (go_at_call 112; refine (hn _ _).mono ?_; rintro e w' ⟨rfl, rfl⟩)
    go_ret
    exact ⟨rfl, rfl⟩
  · rw [e]
    clear e
    have h' : ¬ x < y := by omega
    go_enter Tryz.func69, Tryz.ntmps69
    go_wp2_with (go_at_call 112; refine (hn _ _).mono ?_; rintro e w' ⟨rfl, rfl⟩)
    go_ret
    exact ⟨rfl, rfl⟩
  · rw [e]
    clear e
    subst h
    go_enter Tryz.func69, Tryz.ntmps69
    go_wp2_with (go_at_call 112; refine (hn _ _).mono ?_; rintro e w' ⟨rfl, rfl⟩)
    go_ret
    exact ⟨rfl, rfl⟩

set_option maxRecDepth 100000 in
set_option maxHeartbeats 1000000 in
/-- The closure: 'cmp.Compare(a.Span.From, b.Span.From)': two blocks are laid. -/
theorem begc_calls (a b : Slt) (W : World) : Calls Tryz.prog 68 #[V3 a.1 a.2.1 a.2.2, V3 b.1 b.2.1 b.2.2] W fun e w' => e = .returned (.int .i64 (begS a b)) ∧ ∃ q os', w' = grow (W.drewN q) os' := by
  obtain ⟨x, x1, x2⟩ := a
  obtain ⟨y, y1, y2⟩ := b
  have hcon := fun W' => cmpN_calls x y W'
  show Calls Tryz.prog 68 #[V3 x x1 x2, V3 y y1 y2] W fun e w' => e = .returned (.int .i64 (cmpN x y)) ∧ ∃ q os', w' = grow (W.drewN q) os'
  generalize cmpN x y = r at hcon ⊢
  go_enter Tryz.func68, Tryz.ntmps68
  go_wp2_with (go_at_call 69; refine (hcon _).mono ?_; rintro e w' ⟨rfl, rfl⟩)
  go_ret
  exact ⟨rfl, 0, _, by rw [alloc_eq_grow, alloc_eq_grow, grow_grow]; rfl⟩

theorem lt_begS (a b : Slt) : ltOf begS a b = decide (a.1 < b.1) := by
  unfold ltOf begS
  rcases cmpN_cases a.1 b.1 with ⟨h, e⟩ | ⟨h, e⟩ | ⟨h, e⟩ <;> rw [e] <;> simp <;> omega
theorem swo_begS : SWO (ltOf begS) where
  irrefl a := by rw [lt_begS]; simp
  trans a b c h1 h2 := by rw [lt_begS] at *; simp at *; omega
  ntrans a b c h1 h2 := by rw [lt_begS] at *; simp at *; omega

theorem flatS_eq (xs : List Slt) : (flatK cellsS 3 xs.toArray).toList = flatS xs := by
  apply List.ext_getElem?
  intro t
  by_cases ht : t < xs.length * 3
  · have h1 : t / 3 < xs.length := by omega
    have h2 : t % 3 < 3 := Nat.mod_lt _ (by omega)
    have e := flatS_get xs (t / 3) (t % 3) h2 h1
    rw [show t / 3 * 3 + t % 3 = t by omega] at e
    rw [e]
    simp [flatK, ht, h1, cellsS, h2]
  · rw [List.getElem?_eq_none (by simp; omega), List.getElem?_eq_none (by rw [flatS_len]; omega)]
theorem putS_take (cur F : Array Value) (h : F.size ≤ cur.size) : (putCells id 0 F cur).toList.take F.size = F.toList := by
  apply List.ext_getElem?
  intro j
  by_cases hj : j < F.size
  · rw [List.getElem?_take_of_lt hj, Array.getElem?_toList]
    simp [putCells, hj, show j < cur.size by omega]
  · rw [List.getElem?_take_eq_none (by omega), List.getElem?_eq_none (by simp; omega)]
theorem holds_s {w : World} {g : Nat} {cur : Array Value} {e : TypeId} {xs : List Slt} (hb : w.heap[g]? = some (.cells cur e (0, 0))) (ht : cur.toList.take (xs.length * 3) = flatS xs) : HoldsK cellsS 3 w g 0 xs.toArray := by
  intro j hj
  have hj' : j < xs.length * 3 := by simpa using hj
  refine ⟨?_, by simp [World.frozen?, hb]⟩
  have h1 : (cur.toList.take (xs.length * 3))[j]? = (flatK cellsS 3 xs.toArray).toList[j]? := by rw [ht, flatS_eq]
  rw [List.getElem?_take_of_lt hj'] at h1
  simp only [World.cell?, hb, Nat.zero_add]
  simp only [Option.isSome_none, Bool.false_eq_true, if_false]
  rw [← Array.getElem?_toList, h1, Array.getElem?_toList]
  simp [hj']
theorem heap_s {w : World} {g n : Nat} {os : Array Obj} {cur : Array Value} {e : TypeId} {fr : Nat × Nat} (d : Array Slt) (hb : w.heap[g]? = some (.cells cur e fr)) :
    (sortWorldK cellsS 3 w g 0 n d os).heap[g]? = some (.cells (putCells id 0 (flatK cellsS 3 d) cur) e fr) := by
  have hg : g < w.heap.size := (Array.getElem?_eq_some_iff.1 hb).1
  unfold sortWorldK putRowK
  rw [heap_grow_old _ _ (by simpa using hg)]
  simp [putRow, mapBlock, Sort.ahead, Array.getElem?_modify, hb, onCells]
theorem grown_s {w : World} {g n : Nat} {os : Array Obj} (d : Array Slt) : w.grownBy (sortWorldK cellsS 3 w g 0 n d os) (some g) := by
  unfold sortWorldK putRowK
  refine ⟨rfl, rfl, rfl, by simp, fun k hk hne => ?_⟩
  rw [heap_grow_old _ _ (by simpa using hk)]
  have : g ≠ k := fun e => hne (by rw [e])
  simp [putRow, mapBlock, Sort.ahead, Array.getElem?_modify, this]

/-- 'slices.SortFunc(slots, ..)', a call's own slots. -/
theorem sortS_calls {base : Nat} {v : Value} {xs : List Slt} (w : World) (hL : So w base v xs) (hn : xs.length ≤ 100000) (hb : base ≤ w.heap.size) :
    Calls Tryz.prog 67 #[v, .func (.func 68) #[] #[]] w fun e W' => e = .returned (.tuple #[]) ∧
      ∃ S : List Slt, So W' base v S ∧ S.Perm xs ∧ upS S ∧ Below base w W' := by
  obtain ⟨h1, h2⟩ := hL
  rcases h2 with ⟨rfl, hz⟩ | ⟨g, cap, cur, rfl, hg, hh, hc, hc2, hs, ht⟩
  · obtain rfl := List.length_eq_zero_iff.1 hz
    have hcon := AnyF.slices_SortFunc_none (P := Tryz.prog) (ρ := sortS_ren) { sortS with } none 0 (.func (.func 68) #[] #[]) w
    change Calls Tryz.prog 67 _ _ _ at hcon
    refine hcon.mono ?_
    rintro e W' ⟨rfl, rfl⟩
    exact ⟨rfl, [], So.nil _ _, List.Perm.refl _, fun i j _ hj => by simp at hj, Below.refl _ _⟩
  · have eg : ∀ args w, (callFunc 68 args).run Tryz.prog w = .ok (.enter 68 args) w := enters_of Tryz.func68 (by kernel_rfl) rfl
    have hcmp : CmpLays Tryz.prog 68 #[] cellsS 3 begS g 0 xs.toArray.size w := by
      intro m os dk _ a b
      exact begc_calls a b _
    have hcon := AnyQ.slices_SortFunc sortS 3 (fun w => by kernel_rfl) (fun w => by kernel_rfl) cellsS (fun _ => rfl) (fun a u hu => by
      simp [cellsS] at hu
      rcases hu with rfl | rfl | rfl <;> rfl) begS swo_begS 68 #[] g 0 cap xs.toArray w eg hcmp (holds_s hh ht) (Array.getElem?_eq_some_iff.1 hh).1 (by simp; omega)
    change Calls Tryz.prog 67 _ _ _ at hcon
    refine hcon.mono ?_
    rintro e W' ⟨rfl, d', n, os, hp, hsrt, rfl⟩
    have hsz : d'.size = xs.length := by simpa using hp.1
    have e1 : d'.toList.length = xs.length := by simpa using hsz
    refine ⟨rfl, d'.toList, ?_, ?_, ?_, (Below.refl base w).grown (grown_s d') hb (fun k e => by cases e; exact hg)⟩
    · have e2 : (flatK cellsS 3 d').size = xs.length * 3 := by rw [size_flatK, hsz]
      have e3 : (flatK cellsS 3 d').toList = flatS d'.toList := by rw [← flatS_eq]
      refine ⟨by rw [flatS_len], .inr ⟨g, cap, _, by rw [e1], hg, heap_s d' hh, by rw [e1]; exact hc, hc2, by simpa [putCells] using hs, ?_⟩⟩
      rw [e1, ← e2, putS_take _ _ (by rw [e2, hs]; exact Nat.mul_le_mul_right 3 hc), e3]
    · have := hp.2.2
      have e2 : (d'.toList.take xs.length).Perm xs := by simpa [hsz] using this
      rwa [List.take_of_length_le (Nat.le_of_eq e1)] at e2
    · intro i j hij hj
      have hj' : j < d'.size := by simpa using hj
      have := hsrt i j (Nat.zero_le _) hij (by simp only [List.size_toArray]; omega)
      rw [lt_begS] at this
      have gi : d'[i]! = d'[i]'(by omega) := getElem!_pos d' i (by omega)
      have gj : d'[j]! = d'[j]'hj' := getElem!_pos d' j hj'
      rw [gi, gj] at this
      have hi : i < d'.toList.length := by simp; omega
      rw [List.getD_eq_getElem?_getD, List.getD_eq_getElem?_getD, List.getElem?_eq_getElem hi, List.getElem?_eq_getElem hj]
      simpa using this

end Go.Proofs.YtldcagjnngkabaaGreatDoor

/-
  Boxes that wrap, as plain arithmetic: sides on a ring, the midplanes of a box, when two meet, when one lies in another, when they are the same.
-/
namespace Go.Proofs.YtldcagjnngkabaaGreatDoor

/-- A box: where it begins, and how much it has along each axis. -/
structure Bx where
  x : Int
  y : Int
  z : Int
  a : Int
  b : Int
  c : Int
abbrev B6 (b : Bx) : Value := .agg #[.int .i64 b.x, .int .i64 b.y, .int .i64 b.z, .int .i64 b.a, .int .i64 b.b, .int .i64 b.c]

/-- A side: ring r, beginning at b, s of it. -/
def mayS (r b s : Int) : Prop := (1 ≤ s ∧ s ≤ r) ∧ (0 ≤ b ∧ b < r)
def maySB (r b s : Int) : Bool := decide (1 ≤ s) && (decide (s ≤ r) && (decide (0 ≤ b) && decide (b < r)))
theorem maySB_iff (r b s : Int) : maySB r b s = true ↔ mayS r b s := by simp [maySB, mayS, and_assoc]
def aft (r b k : Int) : Int := if b ≤ k then k - b else k - b + r
def hasS (r b s k : Int) : Bool := decide (aft r b k < s)
def meetS (r b s b' s' : Int) : Bool := hasS r b s b' || hasS r b' s' b
def inS (r b s b' s' : Int) : Bool := s' == r || decide (aft r b' b + s ≤ s')

theorem aft_bd {r b k : Int} (hb : 0 ≤ b ∧ b < r) (hk : 0 ≤ k ∧ k < r) : 0 ≤ aft r b k ∧ aft r b k < r := by unfold aft; split <;> omega
theorem aft_rem {r b k : Int} (hb : 0 ≤ b ∧ b < r) (hk : 0 ≤ k ∧ k < r) : (k - b + r) % r = aft r b k := by
  unfold aft
  split
  · rw [Int.add_emod_right, Int.emod_eq_of_lt (by omega) (by omega)]
  · rw [Int.emod_eq_of_lt (by omega) (by omega)]
theorem on_rem {r b k : Int} (hb : 0 ≤ b ∧ b < r) (hk : 0 ≤ k ∧ k < r) : (b + k) % r = if b + k < r then b + k else b + k - r := by
  split
  · rw [Int.emod_eq_of_lt (by omega) (by omega)]
  · rw [show b + k = (b + k - r) + r by omega, Int.add_emod_right, Int.emod_eq_of_lt (by omega) (by omega)]; omega

/-- What a side has, a step after another. -/
theorem hasS_iff {r b s k : Int} (h : mayS r b s) (hk : 0 ≤ k ∧ k < r) : hasS r b s k = true ↔ ∃ j, 0 ≤ j ∧ j < s ∧ (b + j) % r = k := by
  obtain ⟨⟨h1, h2⟩, h3, h4⟩ := h
  simp only [hasS, decide_eq_true_eq]
  constructor
  · intro ha
    refine ⟨aft r b k, (aft_bd ⟨h3, h4⟩ hk).1, ha, ?_⟩
    rw [on_rem ⟨h3, h4⟩ (aft_bd ⟨h3, h4⟩ hk)]
    unfold aft
    split <;> split <;> omega
  · rintro ⟨j, j0, j1, hj⟩
    rw [on_rem ⟨h3, h4⟩ ⟨j0, by omega⟩] at hj
    unfold aft
    split at hj <;> split <;> omega
theorem hasS_base {r b s : Int} (h : mayS r b s) : hasS r b s b = true := by
  obtain ⟨⟨h1, h2⟩, h3, h4⟩ := h
  simp [hasS, aft]; omega

theorem meetS_iff {r b s b' s' : Int} (h : mayS r b s) (h' : mayS r b' s') : meetS r b s b' s' = true ↔ ∃ k, (0 ≤ k ∧ k < r) ∧ hasS r b s k = true ∧ hasS r b' s' k = true := by
  have H := h
  have H' := h'
  obtain ⟨⟨h1, h2⟩, h3, h4⟩ := h
  obtain ⟨⟨g1, g2⟩, g3, g4⟩ := h'
  constructor
  · intro hm
    simp only [meetS, Bool.or_eq_true] at hm
    rcases hm with hm | hm
    · exact ⟨b', ⟨g3, g4⟩, hm, hasS_base H'⟩
    · exact ⟨b, ⟨h3, h4⟩, hasS_base H, hm⟩
  · rintro ⟨k, ⟨k0, k1⟩, ha, hb⟩
    simp only [meetS, hasS, Bool.or_eq_true, decide_eq_true_eq] at ha hb ⊢
    unfold aft at ha hb ⊢
    split at ha <;> split at hb <;> (split <;> split <;> omega)
theorem inS_iff {r b s b' s' : Int} (h : mayS r b s) (h' : mayS r b' s') : inS r b s b' s' = true ↔ ∀ k, (0 ≤ k ∧ k < r) → hasS r b s k = true → hasS r b' s' k = true := by
  obtain ⟨⟨h1, h2⟩, h3, h4⟩ := h
  obtain ⟨⟨g1, g2⟩, g3, g4⟩ := h'
  simp only [inS, hasS, Bool.or_eq_true, beq_iff_eq, decide_eq_true_eq]
  constructor
  · rintro hc k ⟨k0, k1⟩ ha
    unfold aft at ha hc ⊢
    split at ha <;> split at hc <;> split <;> omega
  · intro hall
    by_cases he : s' = r
    · exact .inl he
    · refine .inr ?_
      have h0 := hall b ⟨h3, h4⟩ (by unfold aft; split <;> omega)
      -- the coordinate behind the other side's last one
      have h2' := hall (if b' + s' < r then b' + s' else b' + s' - r) (by split <;> omega)
      unfold aft at h0 h2' ⊢
      split at h0 <;> split at h2' <;> split at h2' <;> split at h2' <;> (try split) <;> omega
theorem sameS_iff {r b s b' s' : Int} (h : mayS r b s) (h' : mayS r b' s') : (inS r b s b' s' = true ∧ inS r b' s' b s = true) ↔ s = s' ∧ (s = r ∨ b = b') := by
  obtain ⟨⟨h1, h2⟩, h3, h4⟩ := h
  obtain ⟨⟨g1, g2⟩, g3, g4⟩ := h'
  simp only [inS, Bool.or_eq_true, beq_iff_eq, decide_eq_true_eq]
  unfold aft
  constructor
  · rintro ⟨hx, hy⟩
    split at hx <;> split at hy <;> omega
  · rintro ⟨rfl, hx⟩
    split <;> split <;> omega
theorem meetS_sym (r b s b' s' : Int) : meetS r b s b' s' = meetS r b' s' b s := by simp [meetS, Bool.or_comm]
theorem inS_meetS {r b s b' s' : Int} (h : mayS r b s) (h' : mayS r b' s') (hi : inS r b s b' s' = true) : meetS r b s b' s' = true :=
  (meetS_iff h h').2 ⟨b, h.2, hasS_base h, (inS_iff h h').1 hi b h.2 (hasS_base h)⟩
theorem inS_size {r b s b' s' : Int} (h : mayS r b s) (h' : mayS r b' s') (hi : inS r b s b' s' = true) : s ≤ s' := by
  obtain ⟨⟨h1, h2⟩, h3, h4⟩ := h
  obtain ⟨⟨g1, g2⟩, g3, g4⟩ := h'
  simp only [inS, Bool.or_eq_true, beq_iff_eq, decide_eq_true_eq] at hi
  have := (aft_bd (r := r) (b := b') (k := b) ⟨g3, g4⟩ ⟨h3, h4⟩).1
  omega

def okDB (d0 d1 d2 : Int) : Bool := decide (1 ≤ d0) && decide (d0 ≤ 16) && (decide (1 ≤ d1) && decide (d1 ≤ 16)) && (decide (1 ≤ d2) && decide (d2 ≤ 16))
theorem okDB_iff (d0 d1 d2 : Int) : okDB d0 d1 d2 = true ↔ mayD d0 d1 d2 := by simp [okDB, mayD, okD, and_assoc]

/-- A box may be. -/
def mayB (d0 d1 d2 : Int) (b : Bx) : Prop := mayS d0 b.x b.a ∧ mayS d1 b.y b.b ∧ mayS d2 b.z b.c
def mayBB (d0 d1 d2 : Int) (b : Bx) : Bool := maySB d0 b.x b.a && maySB d1 b.y b.b && maySB d2 b.z b.c
theorem mayBB_iff (d0 d1 d2 : Int) (b : Bx) : mayBB d0 d1 d2 b = true ↔ mayB d0 d1 d2 b := by simp [mayBB, mayB, maySB_iff, and_assoc]
theorem mayBB_no {d0 d1 d2 : Int} {b : Bx} (h : ¬ mayB d0 d1 d2 b) : mayBB d0 d1 d2 b = false := by
  rw [← Bool.not_eq_true, mayBB_iff]; exact h

abbrev bAt (b : Bx) (k : Fin 3) : Int := dimAt b.x b.y b.z k
abbrev sAt (b : Bx) (k : Fin 3) : Int := dimAt b.a b.b b.c k
theorem mayB_at {d0 d1 d2 : Int} {b : Bx} (h : mayB d0 d1 d2 b) (k : Fin 3) : mayS (dimAt d0 d1 d2 k) (bAt b k) (sAt b k) := by
  match k with
  | 0 => exact h.1
  | 1 => exact h.2.1
  | 2 => exact h.2.2

def canonB (d0 d1 d2 : Int) (b : Bx) : Bx := ⟨if b.a = d0 then 0 else b.x, if b.b = d1 then 0 else b.y, if b.c = d2 then 0 else b.z, b.a, b.b, b.c⟩
theorem canon_may {d0 d1 d2 : Int} {b : Bx} (h : mayB d0 d1 d2 b) : mayB d0 d1 d2 (canonB d0 d1 d2 b) := by
  obtain ⟨⟨⟨h1, h2⟩, h3, h4⟩, ⟨⟨g1, g2⟩, g3, g4⟩, ⟨⟨k1, k2⟩, k3, k4⟩⟩ := h
  simp only [mayB, mayS, canonB]
  refine ⟨⟨⟨h1, h2⟩, ?_⟩, ⟨⟨g1, g2⟩, ?_⟩, ⟨⟨k1, k2⟩, ?_⟩⟩ <;> split <;> omega
theorem canon_canon (d0 d1 d2 : Int) (b : Bx) : canonB d0 d1 d2 (canonB d0 d1 d2 b) = canonB d0 d1 d2 b := by
  simp only [canonB, Bx.mk.injEq, and_true]
  refine ⟨?_, ?_, ?_⟩ <;> split <;> simp_all

def hasB (d0 d1 d2 : Int) (b : Bx) (m : Int) : Bool := hasS d0 b.x b.a (cx d0 m) && hasS d1 b.y b.b (cy d0 d1 m) && hasS d2 b.z b.c (cz d0 d1 m)
def meetB (d0 d1 d2 : Int) (a b : Bx) : Bool := meetS d0 a.x a.a b.x b.a && meetS d1 a.y a.b b.y b.b && meetS d2 a.z a.c b.z b.c
def inB (d0 d1 d2 : Int) (a b : Bx) : Bool := inS d0 a.x a.a b.x b.a && inS d1 a.y a.b b.y b.b && inS d2 a.z a.c b.z b.c

theorem hasB_num {d0 d1 d2 p q r : Int} {b : Bx} (h : mayD d0 d1 d2) (hp : inD d0 d1 d2 p q r) : hasB d0 d1 d2 b (numD d0 d1 p q r) = (hasS d0 b.x b.a p && hasS d1 b.y b.b q && hasS d2 b.z b.c r) := by
  obtain ⟨_, hx, hy, hz⟩ := node_of_in h hp
  rw [hasB, hx, hy, hz]

theorem meetB_iff {d0 d1 d2 : Int} {a b : Bx} (h : mayD d0 d1 d2) (ha : mayB d0 d1 d2 a) (hb : mayB d0 d1 d2 b) :
    meetB d0 d1 d2 a b = true ↔ ∃ m, (0 ≤ m ∧ m < d0 * d1 * d2) ∧ hasB d0 d1 d2 a m = true ∧ hasB d0 d1 d2 b m = true := by
  simp only [meetB, Bool.and_eq_true]
  rw [meetS_iff ha.1 hb.1, meetS_iff ha.2.1 hb.2.1, meetS_iff ha.2.2 hb.2.2]
  constructor
  · rintro ⟨⟨⟨p, hp, p1, p2⟩, q, hq, q1, q2⟩, r, hr, r1, r2⟩
    refine ⟨numD d0 d1 p q r, (node_of_in h ⟨hp, hq, hr⟩).1, ?_, ?_⟩
    · rw [hasB_num h ⟨hp, hq, hr⟩, p1, q1, r1]; rfl
    · rw [hasB_num h ⟨hp, hq, hr⟩, p2, q2, r2]; rfl
  · rintro ⟨m, hm, h1, h2⟩
    simp only [hasB, Bool.and_eq_true] at h1 h2
    obtain ⟨i0, i1, i2⟩ := inD_of_node h hm
    exact ⟨⟨⟨_, i0, h1.1.1, h2.1.1⟩, _, i1, h1.1.2, h2.1.2⟩, _, i2, h1.2, h2.2⟩

theorem inB_iff {d0 d1 d2 : Int} {a b : Bx} (h : mayD d0 d1 d2) (ha : mayB d0 d1 d2 a) (hb : mayB d0 d1 d2 b) :
    inB d0 d1 d2 a b = true ↔ ∀ m, (0 ≤ m ∧ m < d0 * d1 * d2) → hasB d0 d1 d2 a m = true → hasB d0 d1 d2 b m = true := by
  simp only [inB, Bool.and_eq_true]
  rw [inS_iff ha.1 hb.1, inS_iff ha.2.1 hb.2.1, inS_iff ha.2.2 hb.2.2]
  constructor
  · rintro ⟨⟨f0, f1⟩, f2⟩ m hm h1
    simp only [hasB, Bool.and_eq_true] at h1 ⊢
    obtain ⟨i0, i1, i2⟩ := inD_of_node h hm
    exact ⟨⟨f0 _ i0 h1.1.1, f1 _ i1 h1.1.2⟩, f2 _ i2 h1.2⟩
  · intro f
    have key : ∀ p q r, inD d0 d1 d2 p q r → hasS d0 a.x a.a p = true → hasS d1 a.y a.b q = true → hasS d2 a.z a.c r = true → hasS d0 b.x b.a p = true ∧ hasS d1 b.y b.b q = true ∧ hasS d2 b.z b.c r = true := by
      intro p q r hi h1 h2 h3
      have := f (numD d0 d1 p q r) (node_of_in h hi).1 (by rw [hasB_num h hi, h1, h2, h3]; rfl)
      rw [hasB_num h hi] at this
      simp only [Bool.and_eq_true] at this
      exact ⟨this.1.1, this.1.2, this.2⟩
    refine ⟨⟨fun k hk hx => ?_, fun k hk hx => ?_⟩, fun k hk hx => ?_⟩
    · exact (key k a.y a.z ⟨hk, ha.2.1.2, ha.2.2.2⟩ hx (hasS_base ha.2.1) (hasS_base ha.2.2)).1
    · exact (key a.x k a.z ⟨ha.1.2, hk, ha.2.2.2⟩ (hasS_base ha.1) hx (hasS_base ha.2.2)).2.1
    · exact (key a.x a.y k ⟨ha.1.2, ha.2.1.2, hk⟩ (hasS_base ha.1) (hasS_base ha.2.1) hx).2.2

theorem same_canon {d0 d1 d2 : Int} {a b : Bx} (ha : mayB d0 d1 d2 a) (hb : mayB d0 d1 d2 b) :
    (inB d0 d1 d2 a b = true ∧ inB d0 d1 d2 b a = true) ↔ canonB d0 d1 d2 a = canonB d0 d1 d2 b := by
  have k0 := sameS_iff ha.1 hb.1
  have k1 := sameS_iff ha.2.1 hb.2.1
  have k2 := sameS_iff ha.2.2 hb.2.2
  simp only [inB, Bool.and_eq_true]
  have : ((inS d0 a.x a.a b.x b.a = true ∧ inS d1 a.y a.b b.y b.b = true) ∧ inS d2 a.z a.c b.z b.c = true) ∧ ((inS d0 b.x b.a a.x a.a = true ∧ inS d1 b.y b.b a.y a.b = true) ∧ inS d2 b.z b.c a.z a.c = true) ↔
      (a.a = b.a ∧ (a.a = d0 ∨ a.x = b.x)) ∧ (a.b = b.b ∧ (a.b = d1 ∨ a.y = b.y)) ∧ (a.c = b.c ∧ (a.c = d2 ∨ a.z = b.z)) := by
    rw [← k0, ← k1, ← k2]
    constructor
    · rintro ⟨⟨⟨x1, x2⟩, x3⟩, ⟨y1, y2⟩, y3⟩; exact ⟨⟨x1, y1⟩, ⟨x2, y2⟩, x3, y3⟩
    · rintro ⟨⟨x1, y1⟩, ⟨x2, y2⟩, x3, y3⟩; exact ⟨⟨⟨x1, x2⟩, x3⟩, ⟨y1, y2⟩, y3⟩
  rw [this]
  simp only [canonB, Bx.mk.injEq]
  constructor
  · rintro ⟨⟨e0, f0⟩, ⟨e1, f1⟩, e2, f2⟩
    refine ⟨?_, ?_, ?_, e0, e1, e2⟩
    · rcases f0 with f | f <;> simp [← e0, f]
    · rcases f1 with f | f <;> simp [← e1, f]
    · rcases f2 with f | f <;> simp [← e2, f]
  · rintro ⟨f0, f1, f2, e0, e1, e2⟩
    refine ⟨⟨e0, ?_⟩, ⟨e1, ?_⟩, e2, ?_⟩
    · by_cases h : a.a = d0
      · exact .inl h
      · rw [← e0, if_neg h, if_neg h] at f0; exact .inr f0
    · by_cases h : a.b = d1
      · exact .inl h
      · rw [← e1, if_neg h, if_neg h] at f1; exact .inr f1
    · by_cases h : a.c = d2
      · exact .inl h
      · rw [← e2, if_neg h, if_neg h] at f2; exact .inr f2

theorem meetB_sym (d0 d1 d2 : Int) (a b : Bx) : meetB d0 d1 d2 a b = meetB d0 d1 d2 b a := by
  simp only [meetB, meetS_sym d0 a.x, meetS_sym d1 a.y, meetS_sym d2 a.z]
theorem inB_meetB {d0 d1 d2 : Int} {a b : Bx} (ha : mayB d0 d1 d2 a) (hb : mayB d0 d1 d2 b) (h : inB d0 d1 d2 a b = true) : meetB d0 d1 d2 a b = true := by
  simp only [inB, meetB, Bool.and_eq_true] at h ⊢
  exact ⟨⟨inS_meetS ha.1 hb.1 h.1.1, inS_meetS ha.2.1 hb.2.1 h.1.2⟩, inS_meetS ha.2.2 hb.2.2 h.2⟩
def manyB (b : Bx) : Int := b.a * b.b * b.c
theorem inB_many {d0 d1 d2 : Int} {a b : Bx} (ha : mayB d0 d1 d2 a) (hb : mayB d0 d1 d2 b) (h : inB d0 d1 d2 a b = true) : manyB a ≤ manyB b := by
  simp only [inB, Bool.and_eq_true] at h
  have h0 := inS_size ha.1 hb.1 h.1.1
  have h1 := inS_size ha.2.1 hb.2.1 h.1.2
  have h2 := inS_size ha.2.2 hb.2.2 h.2
  have p0 : 0 ≤ a.a := by have := ha.1.1; omega
  have p1 : 0 ≤ a.b := by have := ha.2.1.1; omega
  have p2 : 0 ≤ a.c := by have := ha.2.2.1; omega
  unfold manyB
  exact Int.mul_le_mul (Int.mul_le_mul h0 h1 p1 (by omega)) h2 p2 (Int.mul_nonneg (by omega) (by omega))

end Go.Proofs.YtldcagjnngkabaaGreatDoor

/-
  '==' between two boxes: as their numbers are.
-/
namespace Go.Proofs.YtldcagjnngkabaaGreatDoor
open Go.RowKit

theorem eqIn_arr3_at {P : Program} (d : Nat) {t e : TypeId} {i : TypeInfo} (hu : P.underlying t = some (.array 3 e)) (he : P.underlying e = some (.int .i64)) (hi : P.info? e = some i) (hc : P.cellsOf e = 1) (hp : P.plainKey e = true)
    (a b c a' b' c' : Int) (w : World) : (Op.equalIn (d + 2) t (.agg #[.int .i64 a, .int .i64 b, .int .i64 c]) (.agg #[.int .i64 a', .int .i64 b', .int .i64 c'])).run P w = .ok (a == a' && (b == b' && c == c')) w := by
  rw [run_equalIn_array w (d + 1) _ _ hu hi, hc]
  have r3 : List.range 3 = [0, 1, 2] := rfl
  have p0 : ∀ (x y z : Value) (w : World), (part e #[x, y, z] 0).run P w = .ok x w := fun x y z w => run_part_plain w hp rfl
  have p1 : ∀ (x y z : Value) (w : World), (part e #[x, y, z] 1).run P w = .ok y w := fun x y z w => run_part_plain w hp rfl
  have p2 : ∀ (x y z : Value) (w : World), (part e #[x, y, z] 2).run P w = .ok z w := fun x y z w => run_part_plain w hp rfl
  have hq : ∀ (x y : Int) (w : World), (Op.equalIn (d + 1) e (.int .i64 x) (.int .i64 y)).run P w = .ok (x == y) w := fun x y w => run_equalIn_int w d e .i64 .i64 x y he
  rw [r3]
  by_cases h0 : a = a' <;> by_cases h1 : b = b' <;> by_cases h2 : c = c' <;> simp [Op.eqItems, p0, p1, p2, hq, h0, h1, h2]

/-- Two rows of three numbers are the same. -/
def same3 (a b c a' b' c' : Int) : Bool := a == a' && (b == b' && c == c')
theorem same3_self (a b c : Int) : same3 a b c a b c = true := by simp [same3]
def sameBx (a b : Bx) : Bool := same3 a.x a.y a.z b.x b.y b.z && same3 a.a a.b a.c b.a b.b b.c
theorem sameBx_iff (a b : Bx) : sameBx a b = true ↔ a = b := by
  cases a; cases b; simp [sameBx, same3, and_assoc]
theorem sameBx_self (a : Bx) : sameBx a a = true := (sameBx_iff a a).2 rfl

set_option maxRecDepth 100000 in
theorem eq_arr9 (a b c a' b' c' : Int) (w : World) : (Op.equalIn 9999 22 (.agg #[.int .i64 a, .int .i64 b, .int .i64 c]) (.agg #[.int .i64 a', .int .i64 b', .int .i64 c'])).run Tryz.prog w = .ok (same3 a b c a' b' c') w := by
  obtain ⟨i, hi⟩ : ∃ i, Tryz.prog.info? 3 = some i := ⟨_, rfl⟩
  exact eqIn_arr3_at 9997 Tryz.underlying22 Tryz.underlying3 hi (by kernel_rfl) (by kernel_rfl) a b c a' b' c' w

end Go.Proofs.YtldcagjnngkabaaGreatDoor
