/-
  cal.At, cal.Next: what each call answers.
-/
import Derived.Test.YtikjgfjahjlbaaaCalTake
namespace Go.Proofs.Ytikjgfjahjlbaaa
open Go Go.RowKit Go.Shelf

attribute [local go_sem] Oper.semAt_some ext_const

def momB (a : Int) : Bool := decide (0 ≤ a) && decide (a < 1099511627776)
/-- What At answers. -/
def atE (xs : List Slt) (a : Int) : Int := if mayCB xs then (if momB a then (match atC xs a with | some _ => 0 | none => 6) else 2) else 8
def atV (xs : List Slt) (a : Int) : Int := if mayCB xs then (if momB a then (match atC xs a with | some o => o | none => 0) else 0) else 0
theorem momB_yes {a : Int} (h : 0 ≤ a ∧ a < 1099511627776) : momB a = true := by simp [momB, h]
theorem momB_no {a : Int} (h : ¬ (0 ≤ a ∧ a < 1099511627776)) : momB a = false := by
  unfold momB
  rw [Bool.and_eq_false_iff]
  by_cases h0 : 0 ≤ a
  · exact .inr (decide_eq_false fun h1 => h ⟨h0, h1⟩)
  · exact .inl (decide_eq_false h0)

set_option maxRecDepth 100000 in
set_option maxHeartbeats 8000000 in
theorem cat_calls {xs : List Slt} {v : Value} {a : Int} (w : World) (hS : Ss w v xs) : Calls Try.prog 11 #[v, I a] w fun e W' => e = .returned (.tuple #[I (atV xs a), I (atE xs a)]) ∧ Below w.heap.size w W' := by
  obtain ⟨ao, cap, rfl, hS⟩ := hS.form
  have HS : Hid (Ss w (.slice ao xs.length cap) xs) := hS
  clear hS
  by_cases hm : mayC xs
  · have HC := chk_yes (v := .slice ao xs.length cap) hm
    have em := mayCB_iff.2 hm
    by_cases ha : 0 ≤ a ∧ a < 1099511627776
    · have HF : Hid (∀ w, Calls Try.prog 27 #[I a, I 1] w fun e W' => e = .returned (.tuple #[S2 a (plusT a 1), I 0]) ∧ Below w.heap.size w W') := fun w => tfrom_yes w ⟨ha.1, ha.2, by omega⟩
      have HV : Hid (∀ k f t o, k < xs.length → xs.getD k (0, 0, 0) = (f, t, o) → f ≤ a → a < t → atV xs a = o ∧ atE xs a = 0) := fun k f t o hk hu h1 h2 => by
        have : atC xs a = some o := (atC_some hm.2.1 (mayC_fine hm)).2 ⟨(f, t, o), by rw [← hu]; simp [hk], ⟨h1, h2⟩, rfl⟩
        simp [atV, atE, em, momB_yes ha, this]
      have HN : Hid ((∀ j, j < xs.length → ¬ ((xs.getD j (0, 0, 0)).1 ≤ a ∧ a < (xs.getD j (0, 0, 0)).2.1)) → atV xs a = 0 ∧ atE xs a = 6) := fun h => by
        have : atC xs a = none := atC_none.2 fun s hs => by
          obtain ⟨i, hi, rfl⟩ := List.mem_iff_getElem.1 hs
          have := h i hi
          simpa [hi] using this
        simp [atV, atE, em, momB_yes ha, this]
      have hn : xs.length ≤ 4096 := hm.2.2
      clear hm em ha
      generalize atV xs a = rv at *
      generalize atE xs a = re at *
      generalize plusT a 1 = p1 at *
      go_enter Try.func11, Try.ntmps11
      go_wp2_with fail
      refine (HC.out _ HS.out).mono ?_
      rintro e w1 ⟨rfl, hT⟩
      go_wp2_with fail
      refine (HF.out _).mono ?_
      rintro e w2 ⟨rfl, hB2⟩
      obtain ⟨W, hW, hB3, hK⟩ := one_start w2 (C2 a p1) 34
      have HW : Hid (w2.alloc (.cells (C2 a p1) 34) = W) := hW
      have hT3 := then_below hT (then_below hB2 hB3)
      clear hW hB2 hB3 hK hT
      go_wp2
      rw [HW.out]
      clear HW
      have HS3 : Hid (Ss W (.slice ao xs.length cap) xs) := HS.out.later hT3
      go_loopw [26] (fun i wr => ∃ k : Nat, k ≤ xs.length ∧ i = .int .i64 k ∧ Hid (∀ j, j < k → ¬ ((xs.getD j (0, 0, 0)).1 ≤ a ∧ a < (xs.getD j (0, 0, 0)).2.1)) ∧ Below W.heap.size W wr) (fun i _ => xs.length - (intOf i).toNat)
      case atStart => exact ⟨0, by omega, rfl, fun j hj => by omega, Below.refl _ _⟩
      case round =>
        obtain ⟨k, hk, rfl, H0, hT⟩ := hrel
        by_cases hlt : (k : Int) < (xs.length : Int)
        · have hk' : k < xs.length := by omega
          obtain ⟨g, off, f, t, o, rfl, hu, hat⟩ := (HS3.out.later hT).at hk'
          obtain ⟨hg, c0, c1, c2⟩ := hat.cells
          have HU : Hid (xs.getD k (0, 0, 0) = (f, t, o)) := hu
          have hBN := (Below.refl _ wr).alloc (Nat.le_refl _) (.cells (C3 f t o) 36)
          clear hu hat
          have HJ : Hid (¬ (f ≤ a ∧ a < t) → ∀ j, j < k + 1 → ¬ ((xs.getD j (0, 0, 0)).1 ≤ a ∧ a < (xs.getD j (0, 0, 0)).2.1)) := fun hno j hj => by
            rcases Nat.lt_succ_iff_lt_or_eq.1 hj with h | rfl
            · exact H0.out j h
            · rw [HU.out]; exact hno
          by_cases h1 : f ≤ a
          · by_cases h2 : a < t
            · obtain ⟨e1, e2⟩ := HV.out k f t o hk' HU.out h1 h2
              subst e1 e2
              go_wp2
              go_ret2
              exact ⟨rfl, then_below hT3 (then_below hT hBN)⟩
            · have HJ2 : Hid (∀ j, j < k + 1 → ¬ ((xs.getD j (0, 0, 0)).1 ≤ a ∧ a < (xs.getD j (0, 0, 0)).2.1)) := HJ.out (fun h => h2 h.2)
              have h2 : decide (a < t) = false := decide_eq_false h2
              go_wp2
              go_roundw
              case rel => exact ⟨k + 1, by omega, by go_num, HJ2, then_below hT hBN⟩
              case measure => simp [intOf]; omega
          · have HJ2 : Hid (∀ j, j < k + 1 → ¬ ((xs.getD j (0, 0, 0)).1 ≤ a ∧ a < (xs.getD j (0, 0, 0)).2.1)) := HJ.out (fun h => h1 h.1)
            have h1 : decide (f ≤ a) = false := decide_eq_false h1
            go_wp2
            go_roundw
            case rel => exact ⟨k + 1, by omega, by go_num, HJ2, then_below hT hBN⟩
            case measure => simp [intOf]; omega
        · obtain ⟨e1, e2⟩ := HN.out fun j hj => H0.out j (by omega)
          subst e1 e2
          go_wp2
          go_ret2
          exact ⟨rfl, then_below hT3 hT⟩
    · have HF : Hid (∀ w, Calls Try.prog 27 #[I a, I 1] w fun e W' => e = .returned (.tuple #[S2 0 0, I 2]) ∧ Below w.heap.size w W') := fun w => tfrom_no w (fun h => ha ⟨h.1, h.2.1⟩)
      rw [show atV xs a = 0 by simp [atV, momB_no ha], show atE xs a = 2 by simp [atE, em, momB_no ha]]
      clear hm em ha
      go_enter Try.func11, Try.ntmps11
      go_wp2_with fail
      refine (HC.out _ HS.out).mono ?_
      rintro e w1 ⟨rfl, hT⟩
      go_wp2_with fail
      refine (HF.out _).mono ?_
      rintro e w2 ⟨rfl, hB2⟩
      have hB3 := (Below.refl _ w2).alloc (Nat.le_refl _) (.cells (C2 0 0) 34)
      go_wp2
      go_ret2
      exact ⟨rfl, then_below hT (then_below hB2 hB3)⟩
  · have em : mayCB xs = false := by cases e : mayCB xs; rfl; exact absurd (mayCB_iff.1 e) hm
    have HC := chk_no (v := .slice ao xs.length cap) hm
    rw [show atV xs a = 0 by simp [atV, em], show atE xs a = 8 by simp [atE, em]]
    clear hm em
    go_enter Try.func11, Try.ntmps11
    go_wp2_with fail
    refine (HC.out _ HS.out).mono ?_
    rintro e w1 ⟨rfl, hT⟩
    go_wp2
    go_ret2
    exact ⟨rfl, hT⟩

theorem nextC_is {c : List Slt} (hf : fineC c) {a long n : Int} (hl : 1 ≤ long) (hn : okF c a long n = true) (h : ∀ m, okF c a long m = true → n ≤ m) : nextC c a long = some n := by
  cases e : nextC c a long with
  | none =>
    have := nextC_none hf hl e n
    rw [this] at hn
    cases hn
  | some k =>
    obtain ⟨h1, h2⟩ := nextC_some hf hl e
    have := h k h1
    have := h2 n hn
    rw [show k = n by omega]
theorem nextC_not {c : List Slt} (hf : fineC c) {a long : Int} (hl : 1 ≤ long) (h : ∀ m, okF c a long m = false) : nextC c a long = none := by
  cases e : nextC c a long with
  | none => rfl
  | some k =>
    have := (nextC_some hf hl e).1
    rw [h k] at this
    cases this

/-- What holds behind k slots of Next's walk, p being the moment that is looked at. -/
structure Nx (c : List Slt) (a long : Int) (k : Nat) (p : Int) : Prop where
  lo : a ≤ p
  hi : p ≤ 1099511627776
  ends : ∀ j, j < k → (c.getD j (0, 0, 0)).2.1 ≤ p
  least : ∀ m, okF c a long m = true → p ≤ m
theorem okF_iff {c : List Slt} (hf : fineC c) {a long m : Int} (hl : 1 ≤ long) : okF c a long m = true ↔ a ≤ m ∧ long ≤ 1099511627776 - m ∧ ∀ s ∈ c, m + long ≤ s.1 ∨ s.2.1 ≤ m := by
  unfold okF
  rw [Bool.and_eq_true, Bool.and_eq_true, decide_eq_true_eq, decide_eq_true_eq, clearC_iff hf (by omega)]
theorem Nx.hit {c : List Slt} {a long p f t o : Int} {k : Nat} (N : Nx c a long k p) (hm : mayC c) (hl : 1 ≤ long) (hk : k < c.length) (hu : c.getD k (0, 0, 0) = (f, t, o)) (h : long ≤ f - p) : nextC c a long = some p := by
  have hf := mayC_fine hm
  have hmem : ∀ j, j < c.length → c.getD j (0, 0, 0) ∈ c := fun j hj => by simp [hj]
  have hs := hm.1 _ (hmem k hk)
  rw [hu] at hs
  have hs1 : 0 ≤ f ∧ f < t ∧ t ≤ 1099511627776 := hs.1
  refine nextC_is hf hl ((okF_iff hf hl).2 ⟨N.lo, by omega, fun s hs => ?_⟩) N.least
  obtain ⟨i, hi, rfl⟩ := List.mem_iff_getElem.1 hs
  by_cases hik : i < k
  · have := N.ends i hik
    simp [hi] at this
    exact .inr this
  · by_cases hik2 : i = k
    · subst hik2
      simp [hi] at hu
      rw [hu]
      exact .inl (by show p + long ≤ f; omega)
    · have := List.pairwise_iff_getElem.1 hm.2.1 k i hk hi (by omega)
      simp [hk] at hu
      rw [hu] at this
      simp only at this
      exact .inl (by omega)
theorem Nx.next {c : List Slt} {a long p f t o q : Int} {k : Nat} (N : Nx c a long k p) (hm : mayC c) (hl : 1 ≤ long) (hk : k < c.length) (hu : c.getD k (0, 0, 0) = (f, t, o)) (h : ¬ long ≤ f - p) (hq : p ≤ q ∧ t ≤ q ∧ (q = p ∨ q = t)) : Nx c a long (k + 1) q := by
  have hf := mayC_fine hm
  have hmem : ∀ j, j < c.length → c.getD j (0, 0, 0) ∈ c := fun j hj => by simp [hj]
  have hs := hm.1 _ (hmem k hk)
  rw [hu] at hs
  have hs1 : 0 ≤ f ∧ f < t ∧ t ≤ 1099511627776 := hs.1
  have := N.lo
  have := N.hi
  refine ⟨by omega, by omega, fun j hj => ?_, fun m hm2 => ?_⟩
  · rcases Nat.lt_succ_iff_lt_or_eq.1 hj with h | rfl
    · have := N.ends j h
      omega
    · rw [hu]; exact hq.2.1
  · have h1 := N.least m hm2
    have h2 := ((okF_iff hf hl).1 hm2).2.2 _ (hmem k hk)
    rw [hu] at h2
    simp only at h2
    omega
theorem Nx.none {c : List Slt} {a long p : Int} (N : Nx c a long c.length p) (hm : mayC c) (hl : 1 ≤ long) (h : 1099511627776 - p < long) : nextC c a long = none := by
  have hf := mayC_fine hm
  refine nextC_not hf hl fun m => ?_
  cases e : okF c a long m
  · rfl
  · have := N.least m e
    have := ((okF_iff hf hl).1 e).2.1
    omega
theorem Nx.end {c : List Slt} {a long p : Int} (N : Nx c a long c.length p) (hm : mayC c) (hl : 1 ≤ long) (h : ¬ 1099511627776 - p < long) : nextC c a long = some p := by
  have hf := mayC_fine hm
  refine nextC_is hf hl ((okF_iff hf hl).2 ⟨N.lo, by omega, fun s hs => ?_⟩) N.least
  obtain ⟨i, hi, rfl⟩ := List.mem_iff_getElem.1 hs
  have := N.ends i hi
  simp [hi] at this
  exact .inr this

/-- What Next answers. -/
def askN (a long : Int) : Bool := momB a && decide (1 ≤ long)
def nextE (xs : List Slt) (a long : Int) : Int := if mayCB xs then (if askN a long then (match nextC xs a long with | some _ => 0 | none => 6) else 2) else 8
def nextV (xs : List Slt) (a long : Int) : Int := if mayCB xs then (if askN a long then (match nextC xs a long with | some n => n | none => 0) else 0) else 0
theorem askN_yes {a long : Int} (h : 0 ≤ a ∧ a < 1099511627776 ∧ 1 ≤ long) : askN a long = true := by simp [askN, momB_yes ⟨h.1, h.2.1⟩, h.2.2]
theorem askN_no {a long : Int} (h : ¬ (0 ≤ a ∧ a < 1099511627776 ∧ 1 ≤ long)) : askN a long = false := by
  unfold askN
  by_cases h1 : 0 ≤ a ∧ a < 1099511627776
  · rw [decide_eq_false (fun h2 => h ⟨h1.1, h1.2, h2⟩)]
    simp
  · rw [momB_no h1]
    rfl

set_option maxRecDepth 100000 in
set_option maxHeartbeats 8000000 in
theorem cnext_calls {xs : List Slt} {v : Value} {a long : Int} (w : World) (hS : Ss w v xs) : Calls Try.prog 9 #[v, I a, I long] w fun e W' => e = .returned (.tuple #[I (nextV xs a long), I (nextE xs a long)]) ∧ Below w.heap.size w W' := by
  obtain ⟨ao, cap, rfl, hS⟩ := hS.form
  have HS : Hid (Ss w (.slice ao xs.length cap) xs) := hS
  clear hS
  by_cases hm : mayC xs
  · have HC := chk_yes (v := .slice ao xs.length cap) hm
    have em := mayCB_iff.2 hm
    by_cases ha : 0 ≤ a ∧ a < 1099511627776 ∧ 1 ≤ long
    · have HF : Hid (∀ w, Calls Try.prog 27 #[I a, I long] w fun e W' => e = .returned (.tuple #[S2 a (plusT a long), I 0]) ∧ Below w.heap.size w W') := fun w => tfrom_yes w ha
      have HV : Hid (∀ n, nextC xs a long = some n → nextV xs a long = n ∧ nextE xs a long = 0) := fun n h => by simp [nextV, nextE, em, askN_yes ha, h]
      have HN : Hid (nextC xs a long = none → nextV xs a long = 0 ∧ nextE xs a long = 6) := fun h => by simp [nextV, nextE, em, askN_yes ha, h]
      have hn : xs.length ≤ 4096 := hm.2.2
      have HM : Hid (mayC xs) := hm
      have HX : Hid (Nx xs a long 0 a) := ⟨Int.le_refl _, by omega, fun j hj => by omega, fun m h => ((okF_iff (mayC_fine hm) ha.2.2).1 h).1⟩
      have hl1 : 1 ≤ long := ha.2.2
      have ha0 : 0 ≤ a := ha.1
      clear hm em ha
      generalize nextV xs a long = rv at *
      generalize nextE xs a long = re at *
      generalize plusT a long = p1 at *
      go_enter Try.func9, Try.ntmps9
      go_wp2_with fail
      refine (HC.out _ HS.out).mono ?_
      rintro e w1 ⟨rfl, hT⟩
      go_wp2_with fail
      refine (HF.out _).mono ?_
      rintro e w2 ⟨rfl, hB2⟩
      obtain ⟨W, hW, hB3, hK⟩ := one_start w2 (C2 a p1) 34
      have HW : Hid (w2.alloc (.cells (C2 a p1) 34) = W) := hW
      have hT3 := then_below hT (then_below hB2 hB3)
      clear hW hB2 hB3 hK hT
      go_wp2
      rw [HW.out]
      clear HW
      have HS3 : Hid (Ss W (.slice ao xs.length cap) xs) := HS.out.later hT3
      go_loopw [11, 31] (fun u i wr => ∃ (k : Nat) (p : Int), k ≤ xs.length ∧ i = .int .i64 k ∧ u = .int .i64 p ∧ Hid (Nx xs a long k p) ∧ Below W.heap.size W wr) (fun _ i _ => xs.length - (intOf i).toNat)
      case atStart => exact ⟨0, a, by omega, rfl, rfl, HX, Below.refl _ _⟩
      case round =>
        obtain ⟨k, p, hk, rfl, rfl, H0, hT⟩ := hrel
        have hp0 : 0 ≤ p := Int.le_trans ha0 H0.out.lo
        have hp1 : p ≤ 1099511627776 := H0.out.hi
        by_cases hlt : (k : Int) < (xs.length : Int)
        · have hk' : k < xs.length := by omega
          obtain ⟨g, off, f, t, o, rfl, hu, hat⟩ := (HS3.out.later hT).at hk'
          obtain ⟨hg, c0, c1, c2⟩ := hat.cells
          have hs := HM.out.1 _ (show xs.getD k (0, 0, 0) ∈ xs by simp [hk'])
          rw [hu] at hs
          have hs1 : 0 ≤ f ∧ f < t ∧ t ≤ 1099511627776 := hs.1
          obtain ⟨hf0, hft, ht1⟩ := hs1
          have HU : Hid (xs.getD k (0, 0, 0) = (f, t, o)) := hu
          have hBN := (Below.refl _ wr).alloc (Nat.le_refl _) (.cells (C3 f t o) 36)
          clear hu hat hs
          by_cases h1 : long ≤ f - p
          · obtain ⟨e1, e2⟩ := HV.out p (H0.out.hit HM.out hl1 hk' HU.out h1)
            subst e1 e2
            go_wp2
            go_ret2
            exact ⟨rfl, then_below hT3 (then_below hT hBN)⟩
          · have HJ : Hid (∀ q, p ≤ q ∧ t ≤ q ∧ (q = p ∨ q = t) → Nx xs a long (k + 1) q) := fun q => H0.out.next HM.out hl1 hk' HU.out h1
            have h1 : decide (long ≤ f - p) = false := decide_eq_false h1
            by_cases hpt : p ≤ t
            · have HJ2 : Hid (Nx xs a long (k + 1) t) := HJ.out t ⟨hpt, Int.le_refl _, .inr rfl⟩
              go_wp2
              all_goals
                go_roundw
                case rel => exact ⟨k + 1, _, by omega, by go_num, rfl, HJ.out _ ⟨by omega, by omega, by omega⟩, then_below hT hBN⟩
                case measure => simp [intOf]; omega
            · have HJ2 : Hid (Nx xs a long (k + 1) p) := HJ.out p ⟨Int.le_refl _, by omega, .inl rfl⟩
              go_wp2
              all_goals
                go_roundw
                case rel => exact ⟨k + 1, _, by omega, by go_num, rfl, HJ.out _ ⟨by omega, by omega, by omega⟩, then_below hT hBN⟩
                case measure => simp [intOf]; omega
        · obtain rfl : k = xs.length := by omega
          by_cases h1 : 1099511627776 - p < long
          · obtain ⟨e1, e2⟩ := HN.out (H0.out.none HM.out hl1 h1)
            subst e1 e2
            go_wp2
            go_ret2
            exact ⟨rfl, then_below hT3 hT⟩
          · obtain ⟨e1, e2⟩ := HV.out p (H0.out.end HM.out hl1 h1)
            have h1 : decide (1099511627776 - p < long) = false := decide_eq_false h1
            subst e1 e2
            go_wp2
            go_ret2
            exact ⟨rfl, then_below hT3 hT⟩
    · have HF : Hid (∀ w, Calls Try.prog 27 #[I a, I long] w fun e W' => e = .returned (.tuple #[S2 0 0, I 2]) ∧ Below w.heap.size w W') := fun w => tfrom_no w ha
      rw [show nextV xs a long = 0 by simp [nextV, askN_no ha], show nextE xs a long = 2 by simp [nextE, em, askN_no ha]]
      clear hm em ha
      go_enter Try.func9, Try.ntmps9
      go_wp2_with fail
      refine (HC.out _ HS.out).mono ?_
      rintro e w1 ⟨rfl, hT⟩
      go_wp2_with fail
      refine (HF.out _).mono ?_
      rintro e w2 ⟨rfl, hB2⟩
      have hB3 := (Below.refl _ w2).alloc (Nat.le_refl _) (.cells (C2 0 0) 34)
      go_wp2
      go_ret2
      exact ⟨rfl, then_below hT (then_below hB2 hB3)⟩
  · have em : mayCB xs = false := by cases e : mayCB xs; rfl; exact absurd (mayCB_iff.1 e) hm
    have HC := chk_no (v := .slice ao xs.length cap) hm
    rw [show nextV xs a long = 0 by simp [nextV, em], show nextE xs a long = 8 by simp [nextE, em]]
    clear hm em
    go_enter Try.func9, Try.ntmps9
    go_wp2_with fail
    refine (HC.out _ HS.out).mono ?_
    rintro e w1 ⟨rfl, hT⟩
    go_wp2
    go_ret2
    exact ⟨rfl, hT⟩

end Go.Proofs.Ytikjgfjahjlbaaa
