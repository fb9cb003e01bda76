/-
  Plain arithmetic of how the least moment is found: the slots of what is asked for, in the order in which they begin; those that begin ahead of a span's end; whether all of them end by its beginning. No program is walked here.
-/
import Derived.Test.YtldcagjnngkabaaGreatDoorPart25
import Derived.Test.YtldcagjnngkabaaGreatDoorPart14
import Derived.Test.YtldcagjnngkabaaGreatDoorPart17
import Derived.Test.YtldcagjnngkabaaGreatDoorPart4
import Derived.Test.YtldcagjnngkabaaGreatDoorPart6
import Derived.Shelf.SlSortCmp.NoneTotal
import Derived.Shelf.Lay
import Derived.Ground.SlsfProg
namespace Go.Proofs.YtldcagjnngkabaaGreatDoor
open Go Go.RowKit Go.Shelf

/-- The slots of those calendars that are asked for, one behind another. -/
def pickS (cs : List (List Slt)) (p : Nat → Bool) : List Slt := ((List.range cs.length).filter p).flatMap fun k => cs.getD k []
theorem pickS_mem {cs : List (List Slt)} {p : Nat → Bool} {s : Slt} : s ∈ pickS cs p ↔ ∃ k, k < cs.length ∧ p k = true ∧ s ∈ cs.getD k [] := by
  unfold pickS
  simp only [List.mem_flatMap, List.mem_filter, List.mem_range]
  constructor
  · rintro ⟨k, ⟨h1, h2⟩, h3⟩; exact ⟨k, h1, h2, h3⟩
  · rintro ⟨k, h1, h2, h3⟩; exact ⟨k, ⟨h1, h2⟩, h3⟩

/-- No slot has any of a span's moments. -/
def clearS (sl : List Slt) (f t : Int) : Bool := sl.all fun s => decide (t ≤ s.1) || decide (s.2.1 ≤ f)
theorem clearS_iff {sl : List Slt} {f t : Int} : clearS sl f t = true ↔ ∀ s ∈ sl, t ≤ s.1 ∨ s.2.1 ≤ f := by
  unfold clearS
  simp only [List.all_eq_true, Bool.or_eq_true, decide_eq_true_eq]
theorem bool_ext {x y : Bool} (h : x = true ↔ y = true) : x = y := by cases x <;> cases y <;> simp at h ⊢
theorem clearS_perm {a b : List Slt} (h : a.Perm b) (f t : Int) : clearS a f t = clearS b f t := by
  refine bool_ext ?_
  rw [clearS_iff, clearS_iff]
  exact ⟨fun k s hs => k s (h.mem_iff.2 hs), fun k s hs => k s (h.mem_iff.1 hs)⟩
theorem free_pick {ns ls : List (List Slt)} (hn : maysC ns = true) (hl : maysC ls = true) (p q : Nat → Bool) {f t : Int} (h : f < t) : freeP ns ls p q f t = clearS (pickS ns p ++ pickS ls q) f t := by
  refine bool_ext ?_
  rw [freeP_iff hn hl h, clearS_iff]
  constructor
  · rintro ⟨a, b⟩ s hs
    rcases List.mem_append.1 hs with hs | hs
    · obtain ⟨k, _, h2, h3⟩ := pickS_mem.1 hs
      exact (busy_no hn h k).1 (a k h2) s h3
    · obtain ⟨k, _, h2, h3⟩ := pickS_mem.1 hs
      exact (busy_no hl h k).1 (b k h2) s h3
  · intro a
    refine ⟨fun k hk => (busy_no hn h k).2 fun s hs => ?_, fun k hk => (busy_no hl h k).2 fun s hs => ?_⟩
    · refine a s (List.mem_append.2 (.inl (pickS_mem.2 ⟨k, ?_, hk, hs⟩)))
      by_cases hx : k < ns.length
      · exact hx
      · rw [List.getD_eq_getElem?_getD, List.getElem?_eq_none (by omega)] at hs; cases hs
    · refine a s (List.mem_append.2 (.inr (pickS_mem.2 ⟨k, ?_, hk, hs⟩)))
      by_cases hx : k < ls.length
      · exact hx
      · rw [List.getD_eq_getElem?_getD, List.getElem?_eq_none (by omega)] at hs; cases hs

/-- A moment serves, over those slots. -/
def fitS (sl : List Slt) (long m : Int) : Bool := decide (long ≤ 1099511627776 - m) && clearS sl m (m + long)
/-- The first of some moments that serves. -/
def firstS (sl : List Slt) (long : Int) (ts : List Int) : Option Int := ts.find? (fitS sl long)
theorem soon_first {ns ls : List (List Slt)} (hn : maysC ns = true) (hl : maysC ls = true) {p q : Nat → Bool} {x long : Int} (h1 : 1 ≤ long) {S : List Slt} (hp : S.Perm (pickS ns p ++ pickS ls q)) : firstS S long (timesT x (slotsY ns ls)) = soonT ns ls p q x long := by
  unfold firstS soonT
  congr 1
  funext m
  unfold fitS servesP
  rw [free_pick hn hl p q (by omega : m < m + long), clearS_perm hp]

theorem first_nil (sl : List Slt) (long : Int) : firstS sl long [] = none := rfl
theorem first_yes {sl : List Slt} {long m : Int} {ts : List Int} (h : fitS sl long m = true) : firstS sl long (m :: ts) = some m := by simp [firstS, h]
theorem first_no {sl : List Slt} {long m : Int} {ts : List Int} (h : fitS sl long m = false) : firstS sl long (m :: ts) = firstS sl long ts := by simp [firstS, h]
/-- Where there is not enough time left behind a moment there is none behind later ones. -/
theorem first_late {sl : List Slt} {long m : Int} {ts : List Int} (hu : UpI (m :: ts)) (h : 1099511627776 - m < long) : firstS sl long (m :: ts) = none := by
  unfold firstS
  rw [List.find?_eq_none]
  intro x hx
  have : m ≤ x := by
    rcases List.mem_cons.1 hx with rfl | hx
    · exact Int.le_refl _
    · have := (List.pairwise_cons.1 hu).1 x hx; omega
  unfold fitS
  rw [decide_eq_false (by omega), Bool.false_and]
  simp

/-- The greatest end of the first k slots. -/
def tipS (S : List Slt) (k : Nat) : Int := (S.take k).foldl (fun e s => max e s.2.1) 0
theorem fold_max {l : List Slt} : ∀ {a m : Int}, l.foldl (fun e s => max e s.2.1) a ≤ m ↔ a ≤ m ∧ ∀ s ∈ l, s.2.1 ≤ m := by
  induction l with
  | nil => intro a m; simp
  | cons y l ih =>
    intro a m
    rw [List.foldl_cons, ih]
    simp only [List.mem_cons, forall_eq_or_imp]
    constructor
    · rintro ⟨h1, h2⟩; exact ⟨by omega, by omega, h2⟩
    · rintro ⟨h1, h2, h3⟩; exact ⟨by omega, h3⟩
theorem tipS_zero (S : List Slt) : tipS S 0 = 0 := rfl
theorem tipS_succ {S : List Slt} {k : Nat} (h : k < S.length) : tipS S (k + 1) = max (tipS S k) (S.getD k (0, 0, 0)).2.1 := by
  unfold tipS
  rw [take_snoc h rfl, List.foldl_append]; rfl
theorem tipS_le {S : List Slt} {k : Nat} {m : Int} : tipS S k ≤ m ↔ 0 ≤ m ∧ ∀ s ∈ S.take k, s.2.1 ≤ m := fold_max

/-- In the order in which they begin. -/
def upS (S : List Slt) : Prop := ∀ i j, i < j → j < S.length → (S.getD i (0, 0, 0)).1 ≤ (S.getD j (0, 0, 0)).1
theorem up_drop {S : List Slt} (hS : upS S) {k : Nat} {t : Int} (he : k < S.length → t ≤ (S.getD k (0, 0, 0)).1) : ∀ s ∈ S.drop k, t ≤ s.1 := by
  intro s hs
  obtain ⟨i, hi, rfl⟩ := List.mem_iff_getElem.1 hs
  rw [List.length_drop] at hi
  rw [List.getElem_drop]
  have h1 := he (by omega)
  have e : S[k + i] = S.getD (k + i) (0, 0, 0) := by rw [List.getD_eq_getElem?_getD, List.getElem?_eq_getElem (by omega)]; rfl
  rw [e]
  by_cases h0 : i = 0
  · subst h0; exact h1
  · have := hS k (k + i) (by omega) (by omega); omega
/-- Behind those that begin ahead of a span's end: they all end by its beginning, just if no slot has any of its moments. -/
theorem soon_test {S : List Slt} (hS : upS S) {k : Nat} {m t : Int} (hb : ∀ s ∈ S.take k, s.1 < t) (he : k < S.length → t ≤ (S.getD k (0, 0, 0)).1) (hm : 0 ≤ m) : decide (tipS S k ≤ m) = clearS S m t := by
  refine bool_ext ?_
  rw [decide_eq_true_eq, tipS_le, clearS_iff]
  constructor
  · rintro ⟨_, h⟩ s hs
    rw [← List.take_append_drop k S] at hs
    rcases List.mem_append.1 hs with hs | hs
    · exact .inr (h s hs)
    · exact .inl (up_drop hS he s hs)
  · intro h
    refine ⟨hm, fun s hs => ?_⟩
    rcases h s (List.mem_of_mem_take hs) with h | h
    · have := hb s hs; omega
    · exact h

end Go.Proofs.YtldcagjnngkabaaGreatDoor

/-
  free.pick: the slots of the calendars whose numbers are chosen; a slice's tail; cmp.Compare at whole numbers.
-/
namespace Go.Proofs.YtldcagjnngkabaaGreatDoor
open Go Go.RowKit Go.Shelf

attribute [local go_sem] Oper.semAt_some ext_const

/-- What some numbers choose. -/
def gotS (cs : List (List Slt)) (L : List Int) : List Slt := L.flatMap fun x => cs.getD x.toNat []
theorem gotS_succ {cs : List (List Slt)} {L : List Int} {j : Nat} (h : j < L.length) : gotS cs (L.take (j + 1)) = gotS cs (L.take j) ++ cs.getD (L.getD j 0).toNat [] := by
  unfold gotS
  rw [List.take_add_one, List.flatMap_append, List.getElem?_eq_getElem h, List.getD_eq_getElem?_getD (l := L), List.getElem?_eq_getElem h]
  simp
theorem flat_sub {α β : Type} {f : α → List β} {a b : List α} (h : a.Sublist b) : (a.flatMap f).length ≤ (b.flatMap f).length := by
  induction h with
  | slnil => exact Nat.le_refl _
  | cons x _ ih => rw [List.flatMap_cons, List.length_append]; omega
  | cons_cons x _ ih => rw [List.flatMap_cons, List.flatMap_cons, List.length_append, List.length_append]; omega
theorem gotS_nums (cs : List (List Slt)) (p : Nat → Bool) (k : Nat) : gotS cs (numsTo p k) = ((List.range k).filter p).flatMap fun k => cs.getD k [] := by
  unfold gotS numsTo ofN
  rw [List.flatMap_map]
  rfl
theorem gotS_all (cs : List (List Slt)) (p : Nat → Bool) : gotS cs (numsTo p cs.length) = pickS cs p := gotS_nums cs p cs.length
theorem range_all (cs : List (List Slt)) : ((List.range cs.length).flatMap fun k => cs.getD k []) = cs.flatten := by
  rw [List.flatMap_def]
  congr 1
  apply List.ext_getElem
  · simp
  · intro i h1 h2
    simp [h2]
theorem gotS_le (cs : List (List Slt)) (p : Nat → Bool) (j : Nat) : (gotS cs ((numsTo p cs.length).take j)).length ≤ cs.flatten.length := by
  have h1 : (gotS cs ((numsTo p cs.length).take j)).length ≤ (gotS cs (numsTo p cs.length)).length := flat_sub (List.take_sublist j _)
  rw [gotS_nums] at h1
  have h2 : (((List.range cs.length).filter p).flatMap fun k => cs.getD k []).length ≤ ((List.range cs.length).flatMap fun k => cs.getD k []).length := flat_sub List.filter_sublist
  rw [range_all] at h2
  omega
theorem pick_le (cs : List (List Slt)) (p : Nat → Bool) : (pickS cs p).length ≤ cs.flatten.length := by
  have h2 : (((List.range cs.length).filter p).flatMap fun k => cs.getD k []).length ≤ ((List.range cs.length).flatMap fun k => cs.getD k []).length := flat_sub List.filter_sublist
  rw [range_all] at h2
  exact h2

set_option maxRecDepth 100000 in
set_option maxHeartbeats 4000000 in
theorem pick_calls {cs : List (List Slt)} {v u : Value} (p : Nat → Bool) (w : World) (hTab : TabOk w) (hS : Yl w v cs) (hU : Wds w u (setOf cs.length p)) (h1 : 1 ≤ cs.length) (h2 : cs.length ≤ 12288) (hf : cs.flatten.length ≤ 50000) :
    Calls Tryz.prog 66 #[v, u] w fun e W' => ∃ r, e = .returned (.tuple #[r, I 0]) ∧ So W' w.heap.size r (pickS cs p) ∧ Below w.heap.size w W' := by
  obtain ⟨ao, cap, rfl, hS⟩ := hS.form
  have HS : Hid (Yl w (.slice ao cs.length cap) cs) := hS
  have HC : Hid (Calls Tryz.prog 109 #[I cs.length, u] w fun e W' => ∃ v, e = .returned (.tuple #[v, I 0]) ∧ Lst W' w.heap.size v (numsTo p cs.length) ∧ Below w.heap.size w W') := by
    have := list_calls w hTab hU cs.length
    rw [setOf_err (by omega) (by omega), setOf_list (by omega) (by omega), Int.toNat_natCast] at this
    exact this
  have HG : Hid (∀ j, j < (numsTo p cs.length).length → gotS cs ((numsTo p cs.length).take (j + 1)) = gotS cs ((numsTo p cs.length).take j) ++ cs.getD ((numsTo p cs.length).getD j 0).toNat []) := fun j h => gotS_succ h
  have HL : Hid (∀ j, j < (numsTo p cs.length).length → ∃ k : Nat, (numsTo p cs.length).getD j 0 = (k : Int) ∧ k < cs.length) := fun j h => by
    have hm : (numsTo p cs.length).getD j 0 ∈ numsTo p cs.length := by
      rw [List.getD_eq_getElem?_getD, List.getElem?_eq_getElem h]
      exact List.getElem_mem h
    obtain ⟨a, b⟩ := numsTo_mem hm
    exact ⟨((numsTo p cs.length).getD j 0).toNat, by omega, by omega⟩
  have HB : Hid (∀ j, (gotS cs ((numsTo p cs.length).take j)).length ≤ 50000) := fun j => by have := gotS_le cs p j; omega
  have HA : Hid (gotS cs ((numsTo p cs.length).take (numsTo p cs.length).length) = pickS cs p) := by
    show _ = _
    rw [List.take_length]; exact gotS_all cs p
  have hnl := numsTo_len p cs.length
  have HZ : Hid (gotS cs ((numsTo p cs.length).take 0) = []) := rfl
  generalize pickS cs p = tgt at *
  generalize numsTo p cs.length = L at *
  clear hS hU hTab hf
  have hnl : L.length ≤ 100000 := by omega
  go_enter Tryz.func66, Tryz.ntmps66
  go_wp2_with fail
  refine HC.out.mono ?_
  rintro e w1 ⟨u1, rfl, hL, hB1⟩
  obtain ⟨a1, c1, rfl, hv1⟩ := hL.its.view
  have HV : Hid (∀ k, k < L.length → ∃ g off, a1 = some ⟨g, off, none⟩ ∧ g < w1.heap.size ∧ w1.cell? ⟨g, off + k, none⟩ = some (I (L.getD k 0))) := hv1
  clear hv1 hL
  go_wp2
  go_loopw [8, 23] (fun s i wr => ∃ j : Nat, j ≤ L.length ∧ i = .int .i64 j ∧ So wr w1.heap.size s (gotS cs (L.take j)) ∧ Below w1.heap.size w1 wr) (fun _ i _ => L.length - (RowKit.intOf i).toNat)
  case atStart => exact ⟨0, by omega, rfl, by rw [HZ.out]; exact So.nil _ _, Below.refl _ _⟩
  case round =>
    obtain ⟨j, hj, rfl, hR, hT⟩ := hrel
    by_cases hlt : (j : Int) < (L.length : Int)
    · have hj' : j < L.length := by omega
      obtain ⟨g, off, rfl, hg, hc⟩ := HV.out j hj'
      have hc := (hT.cell (p := ⟨g, off + j, none⟩) hg).trans hc
      have hg := Nat.lt_of_lt_of_le hg hT.size
      obtain ⟨k, hk, hkl⟩ := HL.out j hj'
      have HGj : Hid (gotS cs (L.take (j + 1)) = gotS cs (L.take j) ++ cs.getD k []) := by
        have := HG.out j hj'
        rw [hk, Int.toNat_natCast] at this
        exact this
      have HBj : Hid ((gotS cs (L.take j)).length + (cs.getD k []).length ≤ 50000) := by
        have := HB.out (j + 1)
        rw [HGj.out, List.length_append] at this
        exact this
      rw [hk] at hc
      obtain ⟨g2, off2, bo, m, cc, rfl, hg2, hcc, hs⟩ := (HS.out.later (then_below hB1 hT)).get hkl
      have hsz := hT.size
      clear hk
      generalize cs.getD k [] = xs at *
      go_wp2_with (at_builtin; refine wpList_catS (base := w1.heap.size) rfl _ _ rfl rfl rfl hR hs (by have := HBj.out; omega) hsz ?_; intro ao5 n5 cap5 w5 hS5 hT5)
      go_roundw
      case rel => exact ⟨j + 1, by omega, by go_num, by rw [HGj.out]; exact hS5, hT.trans hT5⟩
      case measure => simp [RowKit.intOf]; omega
    · obtain rfl : j = L.length := by omega
      rw [HA.out] at hR
      obtain ⟨a4, c4, rfl, _⟩ := hR.ss.form
      clear HG HL HB HA HZ
      go_wp2
      go_ret2
      exact ⟨_, rfl, hR.weak hB1.size, then_below hB1 hT⟩

end Go.Proofs.YtldcagjnngkabaaGreatDoor

/-
  slices.SortFunc over slots, by the moments at which they begin: the same ones, in that order.
-/
namespace Go.Proofs.YtldcagjnngkabaaGreatDoor
open Go Go.Shelf Go.RowKit Go.Lib Go.Sort

shelf_lay_g SlLaysF0.n6 Slsf 6 at Tryz 67 as sortS

attribute [local go_sem] Oper.semAt_some ext_const

def cmpN (x y : Int) : Int := if x < y then -1 else if y < x then 1 else 0
theorem cmpN_cases (x y : Int) : (x < y ∧ cmpN x y = -1) ∨ (y < x ∧ cmpN x y = 1) ∨ (x = y ∧ cmpN x y = 0) := by
  unfold cmpN
  by_cases h : x < y
  · simp [h]
  · by_cases k : y < x
    · simp [h, k]
    · simp [h, k]; omega
def begS (a b : Slt) : Int := cmpN a.1 b.1

set_option maxRecDepth 100000 in
theorem nanN_calls (x : Int) (w : World) : Calls Tryz.prog 112 #[I x] w fun e W' => e = .returned (.bool false) ∧ W' = w := by
  go_enter Tryz.func112, Tryz.ntmps112
  go_wp2
  go_ret
  exact ⟨by simp, rfl⟩
set_option maxRecDepth 100000 in
set_option maxHeartbeats 1000000 in
theorem cmpN_calls (x y : Int) (w : World) : Calls Tryz.prog 69 #[I x, I y] w fun e W' => e = .returned (.int .i64 (cmpN x y)) ∧ W' = w := by
  have hn := nanN_calls
  rcases cmpN_cases x y with ⟨h, e⟩ | ⟨h, e⟩ | ⟨h, e⟩
  · rw [e]
    clear e
    go_enter Tryz.func69, Tryz.ntmps69
    go_wp2_with (go_at_call 112; refine (hn _ _).mono ?_; rintro e w' ⟨rfl, rfl⟩)
    go_ret
    exact ⟨rfl, rfl⟩
  · rw [e]
    clear e
    have h' : ¬ x < y := by omega
    go_enter Tryz.func69, Tryz.ntmps69
    go_wp2_with (go_at_call 112; refine (hn _ _).mono ?_; rintro e w' ⟨rfl, rfl⟩)
    go_ret
    exact ⟨rfl, rfl⟩
  · rw [e]
    clear e
    subst h
    go_enter Tryz.func69, Tryz.ntmps69
    go_wp2_with (go_at_call 112; refine (hn _ _).mono ?_; rintro e w' ⟨rfl, rfl⟩)
    go_ret
    exact ⟨rfl, rfl⟩

set_option maxRecDepth 100000 in
set_option maxHeartbeats 1000000 in
/-- The closure: 'cmp.Compare(a.Span.From, b.Span.From)': two blocks are laid. -/
theorem begc_calls (a b : Slt) (W : World) : Calls Tryz.prog 68 #[V3 a.1 a.2.1 a.2.2, V3 b.1 b.2.1 b.2.2] W fun e w' => e = .returned (.int .i64 (begS a b)) ∧ ∃ q os', w' = grow (W.drewN q) os' := by
  obtain ⟨x, x1, x2⟩ := a
  obtain ⟨y, y1, y2⟩ := b
  have hcon := fun W' => cmpN_calls x y W'
  show Calls Tryz.prog 68 #[V3 x x1 x2, V3 y y1 y2] W fun e w' => e = .returned (.int .i64 (cmpN x y)) ∧ ∃ q os', w' = grow (W.drewN q) os'
  generalize cmpN x y = r at hcon ⊢
  go_enter Tryz.func68, Tryz.ntmps68
  go_wp2_with (go_at_call 69; refine (hcon _).mono ?_; rintro e w' ⟨rfl, rfl⟩)
  go_ret
  exact ⟨rfl, 0, _, by rw [alloc_eq_grow, alloc_eq_grow, grow_grow]; rfl⟩

theorem lt_begS (a b : Slt) : ltOf begS a b = decide (a.1 < b.1) := by
  unfold ltOf begS
  rcases cmpN_cases a.1 b.1 with ⟨h, e⟩ | ⟨h, e⟩ | ⟨h, e⟩ <;> rw [e] <;> simp <;> omega
theorem swo_begS : SWO (ltOf begS) where
  irrefl a := by rw [lt_begS]; simp
  trans a b c h1 h2 := by rw [lt_begS] at *; simp at *; omega
  ntrans a b c h1 h2 := by rw [lt_begS] at *; simp at *; omega

theorem flatS_eq (xs : List Slt) : (flatK cellsS 3 xs.toArray).toList = flatS xs := by
  apply List.ext_getElem?
  intro t
  by_cases ht : t < xs.length * 3
  · have h1 : t / 3 < xs.length := by omega
    have h2 : t % 3 < 3 := Nat.mod_lt _ (by omega)
    have e := flatS_get xs (t / 3) (t % 3) h2 h1
    rw [show t / 3 * 3 + t % 3 = t by omega] at e
    rw [e]
    simp [flatK, ht, h1, cellsS, h2]
  · rw [List.getElem?_eq_none (by simp; omega), List.getElem?_eq_none (by rw [flatS_len]; omega)]
theorem putS_take (cur F : Array Value) (h : F.size ≤ cur.size) : (putCells id 0 F cur).toList.take F.size = F.toList := by
  apply List.ext_getElem?
  intro j
  by_cases hj : j < F.size
  · rw [List.getElem?_take_of_lt hj, Array.getElem?_toList]
    simp [putCells, hj, show j < cur.size by omega]
  · rw [List.getElem?_take_eq_none (by omega), List.getElem?_eq_none (by simp; omega)]
theorem holds_s {w : World} {g : Nat} {cur : Array Value} {e : TypeId} {xs : List Slt} (hb : w.heap[g]? = some (.cells cur e (0, 0))) (ht : cur.toList.take (xs.length * 3) = flatS xs) : HoldsK cellsS 3 w g 0 xs.toArray := by
  intro j hj
  have hj' : j < xs.length * 3 := by simpa using hj
  refine ⟨?_, by simp [World.frozen?, hb]⟩
  have h1 : (cur.toList.take (xs.length * 3))[j]? = (flatK cellsS 3 xs.toArray).toList[j]? := by rw [ht, flatS_eq]
  rw [List.getElem?_take_of_lt hj'] at h1
  simp only [World.cell?, hb, Nat.zero_add]
  simp only [Option.isSome_none, Bool.false_eq_true, if_false]
  rw [← Array.getElem?_toList, h1, Array.getElem?_toList]
  simp [hj']
theorem heap_s {w : World} {g n : Nat} {os : Array Obj} {cur : Array Value} {e : TypeId} {fr : Nat × Nat} (d : Array Slt) (hb : w.heap[g]? = some (.cells cur e fr)) :
    (sortWorldK cellsS 3 w g 0 n d os).heap[g]? = some (.cells (putCells id 0 (flatK cellsS 3 d) cur) e fr) := by
  have hg : g < w.heap.size := (Array.getElem?_eq_some_iff.1 hb).1
  unfold sortWorldK putRowK
  rw [heap_grow_old _ _ (by simpa using hg)]
  simp [putRow, mapBlock, Sort.ahead, Array.getElem?_modify, hb, onCells]
theorem grown_s {w : World} {g n : Nat} {os : Array Obj} (d : Array Slt) : w.grownBy (sortWorldK cellsS 3 w g 0 n d os) (some g) := by
  unfold sortWorldK putRowK
  refine ⟨rfl, rfl, rfl, by simp, fun k hk hne => ?_⟩
  rw [heap_grow_old _ _ (by simpa using hk)]
  have : g ≠ k := fun e => hne (by rw [e])
  simp [putRow, mapBlock, Sort.ahead, Array.getElem?_modify, this]

/-- 'slices.SortFunc(slots, ..)', a call's own slots. -/
theorem sortS_calls {base : Nat} {v : Value} {xs : List Slt} (w : World) (hL : So w base v xs) (hn : xs.length ≤ 100000) (hb : base ≤ w.heap.size) :
    Calls Tryz.prog 67 #[v, .func (.func 68) #[] #[]] w fun e W' => e = .returned (.tuple #[]) ∧
      ∃ S : List Slt, So W' base v S ∧ S.Perm xs ∧ upS S ∧ Below base w W' := by
  obtain ⟨h1, h2⟩ := hL
  rcases h2 with ⟨rfl, hz⟩ | ⟨g, cap, cur, rfl, hg, hh, hc, hc2, hs, ht⟩
  · obtain rfl := List.length_eq_zero_iff.1 hz
    have hcon := AnyF.slices_SortFunc_none (P := Tryz.prog) (ρ := sortS_ren) { sortS with } none 0 (.func (.func 68) #[] #[]) w
    change Calls Tryz.prog 67 _ _ _ at hcon
    refine hcon.mono ?_
    rintro e W' ⟨rfl, rfl⟩
    exact ⟨rfl, [], So.nil _ _, List.Perm.refl _, fun i j _ hj => by simp at hj, Below.refl _ _⟩
  · have eg : ∀ args w, (callFunc 68 args).run Tryz.prog w = .ok (.enter 68 args) w := enters_of Tryz.func68 (by kernel_rfl) rfl
    have hcmp : CmpLays Tryz.prog 68 #[] cellsS 3 begS g 0 xs.toArray.size w := by
      intro m os dk _ a b
      exact begc_calls a b _
    have hcon := AnyQ.slices_SortFunc sortS 3 (fun w => by kernel_rfl) (fun w => by kernel_rfl) cellsS (fun _ => rfl) (fun a u hu => by
      simp [cellsS] at hu
      rcases hu with rfl | rfl | rfl <;> rfl) begS swo_begS 68 #[] g 0 cap xs.toArray w eg hcmp (holds_s hh ht) (Array.getElem?_eq_some_iff.1 hh).1 (by simp; omega)
    change Calls Tryz.prog 67 _ _ _ at hcon
    refine hcon.mono ?_
    rintro e W' ⟨rfl, d', n, os, hp, hsrt, rfl⟩
    have hsz : d'.size = xs.length := by simpa using hp.1
    have e1 : d'.toList.length = xs.length := by simpa using hsz
    refine ⟨rfl, d'.toList, ?_, ?_, ?_, (Below.refl base w).grown (grown_s d') hb (fun k e => by cases e; exact hg)⟩
    · have e2 : (flatK cellsS 3 d').size = xs.length * 3 := by rw [size_flatK, hsz]
      have e3 : (flatK cellsS 3 d').toList = flatS d'.toList := by rw [← flatS_eq]
      refine ⟨by rw [flatS_len], .inr ⟨g, cap, _, by rw [e1], hg, heap_s d' hh, by rw [e1]; exact hc, hc2, by simpa [putCells] using hs, ?_⟩⟩
      rw [e1, ← e2, putS_take _ _ (by rw [e2, hs]; exact Nat.mul_le_mul_right 3 hc), e3]
    · have := hp.2.2
      have e2 : (d'.toList.take xs.length).Perm xs := by simpa [hsz] using this
      rwa [List.take_of_length_le (Nat.le_of_eq e1)] at e2
    · intro i j hij hj
      have hj' : j < d'.size := by simpa using hj
      have := hsrt i j (Nat.zero_le _) hij (by simp only [List.size_toArray]; omega)
      rw [lt_begS] at this
      have gi : d'[i]! = d'[i]'(by omega) := getElem!_pos d' i (by omega)
      have gj : d'[j]! = d'[j]'hj' := getElem!_pos d' j hj'
      rw [gi, gj] at this
      have hi : i < d'.toList.length := by simp; omega
      rw [List.getD_eq_getElem?_getD, List.getD_eq_getElem?_getD, List.getElem?_eq_getElem hi, List.getElem?_eq_getElem hj]
      simpa using this

end Go.Proofs.YtldcagjnngkabaaGreatDoor
