/-
  slices.IndexFunc and slices.ContainsFunc over slots, cal.free and its closure, cal.Free: what each call answers.
-/
import Derived.Test.YtikjgfjahjlbaaaCalCheck
import Derived.Test.YtikjgfjahjlbaaaTimeTwo
namespace Go.Proofs.Ytikjgfjahjlbaaa
open Go Go.RowKit Go.Shelf

attribute [local go_sem] Oper.semAt_some ext_const

/-- The closure of free: whether a slot meets the span that it was made with. -/
theorem freec_calls {w : World} {A : Nat} {f t o x y : Int} (hm : maySp f t) (hs : maySp x y) (ha : Blk w A 34 (C2 x y)) : Calls Try.prog 47 #[V3 f t o, .pointer (some ⟨A, 0, none⟩)] w fun e W' => e = .returned (.bool (meetsT f t x y)) ∧ Below w.heap.size w W' := by
  have H : Hid (∀ w, Calls Try.prog 48 #[S2 f t, S2 x y] w fun e W' => e = .returned (.tuple #[.bool (meetsT f t x y), I 0]) ∧ Below w.heap.size w W') := fun w => tmeet_yes w hm hs
  have hB : Below w.heap.size w (w.alloc (.cells (C3 f t o) 36)) := (Below.refl _ w).alloc (Nat.le_refl _) _
  obtain ⟨c0, c1, hz⟩ := ha.pair (Below.refl _ _)
  generalize meetsT f t x y = r at *
  clear hm hs ha
  go_enter Try.func47, Try.ntmps47
  go_wp2_with fail
  refine (H.out _).mono ?_
  rintro e w1 ⟨rfl, hB1⟩
  go_wp2
  go_ret
  exact ⟨rfl, then_below hB hB1⟩

def meetAny (xs : List Slt) (x y : Int) : Bool := !clearC xs x y
/-- The first slot that meets a span, or -1. -/
def firstM (xs : List Slt) (x y : Int) : Int := match xs.findIdx? fun s => meetsT s.1 s.2.1 x y with | some i => i | none => -1
theorem firstM_at {xs : List Slt} {x y f t o : Int} {k : Nat} (hk : k < xs.length) (hu : xs.getD k (0, 0, 0) = (f, t, o)) (h0 : ∀ j, j < k → meetsT (xs.getD j (0, 0, 0)).1 (xs.getD j (0, 0, 0)).2.1 x y = false) (hm : meetsT f t x y = true) : firstM xs x y = k := by
  have : xs.findIdx? (fun s => meetsT s.1 s.2.1 x y) = some k := by
    rw [List.findIdx?_eq_some_iff_getElem]
    have hs : xs[k] = (f, t, o) := by simpa [hk] using hu
    refine ⟨hk, by rw [hs]; exact hm, fun j hj => ?_⟩
    have := h0 j hj
    simp [show j < xs.length by omega] at this
    simp [this]
  unfold firstM
  rw [this]
theorem firstM_none {xs : List Slt} {x y : Int} (h0 : ∀ j, j < xs.length → meetsT (xs.getD j (0, 0, 0)).1 (xs.getD j (0, 0, 0)).2.1 x y = false) : firstM xs x y = -1 := by
  have : xs.findIdx? (fun s => meetsT s.1 s.2.1 x y) = none := by
    rw [List.findIdx?_eq_none_iff]
    intro s hs
    obtain ⟨i, hi, rfl⟩ := List.mem_iff_getElem.1 hs
    have := h0 i hi
    simp [hi] at this
    simp [this]
  unfold firstM
  rw [this]
theorem firstM_any (xs : List Slt) (x y : Int) : decide (0 ≤ firstM xs x y) = meetAny xs x y := by
  unfold firstM meetAny clearC
  cases h : xs.findIdx? fun s => meetsT s.1 s.2.1 x y with
  | some i =>
    obtain ⟨hi, hm, _⟩ := List.findIdx?_eq_some_iff_getElem.1 h
    have : xs.all (fun s => !meetsT s.1 s.2.1 x y) = false := by
      rw [List.all_eq_false]
      exact ⟨xs[i], List.getElem_mem hi, by simpa using hm⟩
    rw [this]
    simp
  | none =>
    have : xs.all (fun s => !meetsT s.1 s.2.1 x y) = true := by
      rw [List.all_eq_true]
      intro s hs
      have := List.findIdx?_eq_none_iff.1 h s hs
      simpa using this
    rw [this]
    simp

set_option maxRecDepth 100000 in
set_option maxHeartbeats 4000000 in
theorem index_calls {xs : List Slt} {v : Value} {w : World} {A : Nat} {x y : Int} (hS : Ss w v xs) (hn : xs.length ≤ 100000) (hm : ∀ s ∈ xs, maySl s) (hs : maySp x y) (ha : Blk w A 34 (C2 x y)) :
    Calls Try.prog 52 #[v, .func (.func 47) #[] #[.pointer (some ⟨A, 0, none⟩)]] w fun e W' => e = .returned (I (firstM xs x y)) ∧ Below w.heap.size w W' := by
  obtain ⟨ao, cap, rfl, hS⟩ := hS.form
  have HS : Hid (Ss w (.slice ao xs.length cap) xs) := hS
  have HA : Hid (Blk w A 34 (C2 x y)) := ha
  have HC : Hid (∀ (w : World) (f t o : Int), maySp f t → Blk w A 34 (C2 x y) → Calls Try.prog 47 #[V3 f t o, .pointer (some ⟨A, 0, none⟩)] w fun e W' => e = .returned (.bool (meetsT f t x y)) ∧ Below w.heap.size w W') := fun w f t o h1 h2 => freec_calls h1 hs h2
  have HM : Hid (∀ k, k < xs.length → maySl (xs.getD k (0, 0, 0))) := fun k hk => hm _ (by simp [hk])
  have H1 : Hid (∀ (k : Nat) (f t o : Int), k < xs.length → xs.getD k (0, 0, 0) = (f, t, o) → (∀ j, j < k → meetsT (xs.getD j (0, 0, 0)).1 (xs.getD j (0, 0, 0)).2.1 x y = false) → meetsT f t x y = true → firstM xs x y = k) := fun k f t o => firstM_at
  have H2 : Hid ((∀ j, j < xs.length → meetsT (xs.getD j (0, 0, 0)).1 (xs.getD j (0, 0, 0)).2.1 x y = false) → firstM xs x y = -1) := firstM_none
  generalize firstM xs x y = ans at H1 H2 ⊢
  clear hS ha hm hs
  go_enter Try.func52, Try.ntmps52
  go_wp2
  go_loopw [8] (fun i wr => ∃ k : Nat, k ≤ xs.length ∧ i = .int .i64 k ∧ Hid (∀ j, j < k → meetsT (xs.getD j (0, 0, 0)).1 (xs.getD j (0, 0, 0)).2.1 x y = false) ∧ Below w.heap.size w wr) (fun i _ => xs.length - (intOf i).toNat)
  case atStart => exact ⟨0, by omega, rfl, fun j hj => by omega, Below.refl _ _⟩
  case round =>
    obtain ⟨k, hk, rfl, H0, hT⟩ := hrel
    by_cases hlt : (k : Int) < (xs.length : Int)
    · have hk' : k < xs.length := by omega
      obtain ⟨g, off, f, t, o, rfl, hu, ha⟩ := (HS.out.later hT).at hk'
      obtain ⟨hg, c0, c1, c2⟩ := ha.cells
      have HU : Hid (xs.getD k (0, 0, 0) = (f, t, o)) := hu
      have hmy := HM.out k hk'
      rw [hu] at hmy
      have HC1 : Hid (Calls Try.prog 47 #[V3 f t o, .pointer (some ⟨A, 0, none⟩)] wr fun e W' => e = .returned (.bool (meetsT f t x y)) ∧ Below wr.heap.size wr W') := HC.out wr f t o hmy.1 (HA.out.later hT)
      clear hu ha hmy
      cases hm : meetsT f t x y
      · have HJ : Hid (∀ j, j < k + 1 → meetsT (xs.getD j (0, 0, 0)).1 (xs.getD j (0, 0, 0)).2.1 x y = false) := fun j hj => by
          rcases Nat.lt_succ_iff_lt_or_eq.1 hj with h | rfl
          · exact H0.out j h
          · rw [HU.out]; exact hm
        rw [hm] at HC1
        clear hm
        go_wp2_with fail
        refine HC1.out.mono ?_
        rintro e w1 ⟨rfl, hB1⟩
        go_wp2
        go_roundw
        case rel => exact ⟨k + 1, by omega, by go_num, HJ, then_below hT hB1⟩
        case measure => simp [intOf]; omega
      · have E : ans = k := H1.out k f t o hk' HU.out H0.out hm
        subst E
        rw [hm] at HC1
        clear hm
        go_wp2_with fail
        refine HC1.out.mono ?_
        rintro e w1 ⟨rfl, hB1⟩
        go_wp2
        go_ret
        exact ⟨rfl, then_below hT hB1⟩
    · have E : ans = -1 := H2.out fun j hj => H0.out j (by omega)
      subst E
      go_wp2
      go_ret
      exact ⟨rfl, hT⟩

theorem contains_calls {xs : List Slt} {v : Value} {w : World} {A : Nat} {x y : Int} (hS : Ss w v xs) (hn : xs.length ≤ 100000) (hm : ∀ s ∈ xs, maySl s) (hs : maySp x y) (ha : Blk w A 34 (C2 x y)) :
    Calls Try.prog 46 #[v, .func (.func 47) #[] #[.pointer (some ⟨A, 0, none⟩)]] w fun e W' => e = .returned (.bool (meetAny xs x y)) ∧ Below w.heap.size w W' := by
  rw [← firstM_any]
  have H : Hid (Calls Try.prog 52 #[v, .func (.func 47) #[] #[.pointer (some ⟨A, 0, none⟩)]] w fun e W' => e = .returned (I (firstM xs x y)) ∧ Below w.heap.size w W') := index_calls hS hn hm hs ha
  clear hS hm hs ha
  generalize firstM xs x y = r at *
  by_cases hr : 0 ≤ r
  · rw [decide_eq_true hr]
    go_enter Try.func46, Try.ntmps46
    go_wp2_with fail
    refine H.out.mono ?_
    rintro e w1 ⟨rfl, hT⟩
    go_wp2
    go_ret
    exact ⟨rfl, hT⟩
  · rw [decide_eq_false hr]
    have hr : decide (0 ≤ r) = false := decide_eq_false hr
    go_enter Try.func46, Try.ntmps46
    go_wp2_with fail
    refine H.out.mono ?_
    rintro e w1 ⟨rfl, hT⟩
    go_wp2
    go_ret
    exact ⟨rfl, hT⟩

theorem free_calls {xs : List Slt} {v : Value} {x y : Int} (w : World) (hS : Ss w v xs) (hn : xs.length ≤ 100000) (hm : ∀ s ∈ xs, maySl s) (hs : maySp x y) :
    Calls Try.prog 33 #[v, S2 x y] w fun e W' => e = .returned (.bool (clearC xs x y)) ∧ Below w.heap.size w W' := by
  have hB := (Below.refl _ w).alloc (Nat.le_refl _) (.cells (C2 x y) 34)
  have H := contains_calls (hS.later hB) hn hm hs (Blk.new w 34 (C2 x y))
  have H : Hid (Calls Try.prog 46 #[v, .func (.func 47) #[] #[.pointer (some ⟨w.heap.size, 0, none⟩)]] (w.alloc (.cells (C2 x y) 34)) fun e W' => e = .returned (.bool (meetAny xs x y)) ∧ Below (w.alloc (.cells (C2 x y) 34)).heap.size (w.alloc (.cells (C2 x y) 34)) W') := H
  have E : clearC xs x y = !meetAny xs x y := by simp [meetAny]
  rw [E]
  clear hS hm hs E
  generalize meetAny xs x y = r at *
  cases r
  all_goals
    go_enter Try.func33, Try.ntmps33
    go_wp2_with fail
    refine H.out.mono ?_
    rintro e w1 ⟨rfl, hT⟩
    go_wp2
    go_ret
    exact ⟨rfl, then_below hB hT⟩

end Go.Proofs.Ytikjgfjahjlbaaa
