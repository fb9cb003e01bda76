/-
  Put, Take, Cut, of the program and of the document: one contract each for all inputs.
-/
import Derived.Test.YtikjgfjahjlbaaaCalRefNext
import Derived.Test.YtikjgfjahjlbaaaLawCal
namespace Go.Proofs.Ytikjgfjahjlbaaa
open Go Go.RowKit Go.Shelf

def putL (xs : List Slt) (s : Slt) : List Slt := if putE xs s = 0 then withC s xs else []
def takeL (xs : List Slt) (ow : Int) : List Slt := if mayCB xs then lessC xs ow else []
def cutL (xs : List Slt) (ow to : Int) : List Slt := if mayCB xs then endedC xs ow to else []
theorem putE_zero {xs : List Slt} {f t o : Int} (h : putE xs (f, t, o) = 0) : mayC xs ∧ maySl (f, t, o) ∧ clearC xs f t = true ∧ xs.length < 4096 := by
  unfold putE at h
  split at h
  · rename_i h1
    split at h
    · rename_i h2
      split at h
      · rename_i h3
        split at h
        · cases h
        · rename_i h4
          have hm := mayCB_iff.1 h1
          exact ⟨hm, maySlB_iff.1 h2, h3, by have := hm.2.2; omega⟩
      · cases h
    · cases h
  · cases h
theorem putE_ok {xs : List Slt} {f t o : Int} (h1 : mayC xs) (h2 : maySl (f, t, o)) (h3 : clearC xs f t = true) (h4 : xs.length < 4096) : putE xs (f, t, o) = 0 := by
  unfold putE
  rw [if_pos (mayCB_iff.2 h1), if_pos (maySlB_iff.2 h2), if_pos h3, if_neg (by omega)]
theorem withC_few (xs : List Slt) (s : Slt) : (putL xs s).length ≤ xs.length + 1 := by
  unfold putL
  split
  · rw [withC_len]; omega
  · simp
theorem takeL_few (xs : List Slt) (ow : Int) : (takeL xs ow).length ≤ xs.length := by
  unfold takeL
  split
  · exact List.length_filter_le _ _
  · simp
theorem cutL_few (xs : List Slt) (ow to : Int) : (cutL xs ow to).length ≤ xs.length := by
  unfold cutL
  split
  · exact List.length_filterMap_le _ _
  · simp

theorem cput_all {xs : List Slt} {v : Value} {f t o : Int} (w : World) (hS : Ss w v xs) : Calls Try.prog 17 #[v, V3 f t o] w fun e W' => ∃ u, e = .returned (.tuple #[u, I (putE xs (f, t, o))]) ∧ So W' w.heap.size u (putL xs (f, t, o)) ∧ Below w.heap.size w W' := by
  unfold putL
  by_cases h : putE xs (f, t, o) = 0
  · obtain ⟨h1, h2, h3, h4⟩ := putE_zero h
    rw [if_pos h, h]
    exact cput_yes w hS h1 h2 h3 h4
  · rw [if_neg h]
    refine (cput_err w hS h).mono ?_
    rintro e W' ⟨rfl, hb⟩
    exact ⟨_, rfl, So.nil _ _, hb⟩
theorem rput_all {xs : List Slt} {v : Value} {f t o : Int} (w : World) (hS : Ss w v xs) (hn : xs.length ≤ 10000) : Calls Try.prog 18 #[v, V3 f t o] w fun e W' => ∃ u, e = .returned (.tuple #[u, I (putE xs (f, t, o))]) ∧ So W' w.heap.size u (putL xs (f, t, o)) ∧ Below w.heap.size w W' := by
  unfold putL
  by_cases h : putE xs (f, t, o) = 0
  · obtain ⟨h1, h2, h3, h4⟩ := putE_zero h
    rw [if_pos h, h]
    exact rput_yes w hS h1 h2 h3 h4
  · rw [if_neg h]
    refine (rput_err w hS hn h).mono ?_
    rintro e W' ⟨rfl, hb⟩
    exact ⟨_, rfl, So.nil _ _, hb⟩
theorem ctake_all {xs : List Slt} {v : Value} {ow : Int} (w : World) (hS : Ss w v xs) : Calls Try.prog 13 #[v, I ow] w fun e W' => ∃ u, e = .returned (.tuple #[u, I (errC xs)]) ∧ So W' w.heap.size u (takeL xs ow) ∧ Below w.heap.size w W' := by
  unfold takeL
  by_cases h : mayC xs
  · rw [if_pos (mayCB_iff.2 h), errC_ok h]
    exact ctake_yes w hS h
  · rw [if_neg (by rw [mayCB_no h]; decide), errC_no h]
    refine (ctake_no w hS h).mono ?_
    rintro e W' ⟨rfl, hb⟩
    exact ⟨_, rfl, So.nil _ _, hb⟩
theorem rtake_all {xs : List Slt} {v : Value} {ow : Int} (w : World) (hS : Ss w v xs) (hn : xs.length ≤ 10000) : Calls Try.prog 19 #[v, I ow] w fun e W' => ∃ u, e = .returned (.tuple #[u, I (errC xs)]) ∧ So W' w.heap.size u (takeL xs ow) ∧ Below w.heap.size w W' := by
  unfold takeL
  by_cases h : mayC xs
  · rw [if_pos (mayCB_iff.2 h), errC_ok h]
    exact rtake_yes w hS hn h
  · rw [if_neg (by rw [mayCB_no h]; decide), errC_no h]
    refine (rtake_no w hS hn h).mono ?_
    rintro e W' ⟨rfl, hb⟩
    exact ⟨_, rfl, So.nil _ _, hb⟩
theorem ccut_all {xs : List Slt} {v : Value} {ow to : Int} (w : World) (hS : Ss w v xs) : Calls Try.prog 12 #[v, I ow, I to] w fun e W' => ∃ u, e = .returned (.tuple #[u, I (errC xs)]) ∧ So W' w.heap.size u (cutL xs ow to) ∧ Below w.heap.size w W' := by
  unfold cutL
  by_cases h : mayC xs
  · rw [if_pos (mayCB_iff.2 h), errC_ok h]
    exact ccut_yes w hS h
  · rw [if_neg (by rw [mayCB_no h]; decide), errC_no h]
    refine (ccut_no w hS h).mono ?_
    rintro e W' ⟨rfl, hb⟩
    exact ⟨_, rfl, So.nil _ _, hb⟩
theorem rcut_all {xs : List Slt} {v : Value} {ow to : Int} (w : World) (hS : Ss w v xs) (hn : xs.length ≤ 10000) : Calls Try.prog 20 #[v, I ow, I to] w fun e W' => ∃ u, e = .returned (.tuple #[u, I (errC xs)]) ∧ So W' w.heap.size u (cutL xs ow to) ∧ Below w.heap.size w W' := by
  unfold cutL
  by_cases h : mayC xs
  · rw [if_pos (mayCB_iff.2 h), errC_ok h]
    exact rcut_yes w hS hn h
  · rw [if_neg (by rw [mayCB_no h]; decide), errC_no h]
    refine (rcut_no w hS hn h).mono ?_
    rintro e W' ⟨rfl, hb⟩
    exact ⟨_, rfl, So.nil _ _, hb⟩

/-- An empty list, written out. -/
theorem So.zero (W : World) (base : Nat) (hb : base ≤ W.heap.size) : So (W.alloc (.cells #[] 36)) base (.slice (some ⟨W.heap.size, 0, none⟩) 0 0) [] :=
  ⟨rfl, .inr ⟨W.heap.size, 0, #[], rfl, hb, Blk.new W _ _, Nat.le_refl _, Nat.zero_le _, rfl, rfl⟩⟩
theorem eqC_self (xs : List Slt) : eqC xs xs = true := decide_eq_true rfl
theorem same_true {xs : List Slt} {u v : Value} (w : World) (hu : Ss w u xs) (hv : Ss w v xs) (hx : xs.length ≤ 100000) : Calls Try.prog 15 #[u, v] w fun e W' => e = .returned (.bool true) ∧ Below w.heap.size w W' := by
  have := rsameC_calls w hu hv hx
  rwa [eqC_self] at this

/-- A row of slots whose owners may be written anew. -/
def Ownd (W : World) (g n : Nat) : Prop := ∃ vs : Array Value, Blk W g 36 vs ∧ ∀ k, k < n → ∃ z : Int, vs[k * 3 + 2]? = some (I z)
theorem Ownd.cell {W : World} {g n k : Nat} (h : Ownd W g n) (hk : k < n) : (∃ z : Int, W.cell? ⟨g, k * 3 + 2, none⟩ = some (.int .i64 z)) ∧ W.frozen? ⟨g, k * 3 + 2, none⟩ = false := by
  obtain ⟨vs, hb, hv⟩ := h
  obtain ⟨z, hz⟩ := hv k hk
  exact ⟨⟨z, by rw [hb.cell, hz]⟩, hb.frozen _⟩
theorem Ownd.lt {W : World} {g n : Nat} (h : Ownd W g n) : g < W.heap.size := by
  obtain ⟨vs, hb, _⟩ := h
  exact hb.lt
theorem Ownd.set {W : World} {g n : Nat} (h : Ownd W g n) (i : Nat) (z : Int) : Ownd (W.setCell ⟨g, i, none⟩ (.int .i64 z)) g n := by
  obtain ⟨vs, hb, hv⟩ := h
  refine ⟨_, hb.set i _, fun k hk => ?_⟩
  obtain ⟨z', hz'⟩ := hv k hk
  by_cases e : i = k * 3 + 2
  · subst e
    refine ⟨z, ?_⟩
    have hlt : k * 3 + 2 < vs.size := (Array.getElem?_eq_some_iff.1 hz').1
    simp [hlt]
  · refine ⟨z', ?_⟩
    rw [← hz']
    simp [e]
theorem Ownd.later {W W' : World} {g n : Nat} (h : Ownd W g n) (hb : Below W.heap.size W W') : Ownd W' g n := by
  obtain ⟨vs, h1, h2⟩ := h
  exact ⟨vs, h1.later hb, h2⟩
theorem Ownd.other {W : World} {g g' n : Nat} (h : Ownd W g n) (hne : g ≠ g') (i : Nat) (x : Value) : Ownd (W.setCell ⟨g', i, none⟩ x) g n := by
  obtain ⟨vs, h1, h2⟩ := h
  exact ⟨vs, h1.other i x hne, h2⟩
/-- A list of a call's own is none, or such a row. -/
theorem So.ownd {W : World} {base : Nat} {v : Value} {xs : List Slt} (h : So W base v xs) : (v = .slice none 0 0 ∧ xs = []) ∨ ∃ g cap, v = .slice (some ⟨g, 0, none⟩) xs.length cap ∧ base ≤ g ∧ Ownd W g xs.length := by
  obtain ⟨h1, h2⟩ := h
  rcases h2 with ⟨rfl, hn⟩ | ⟨g, cap, cur, rfl, hg, hh, hc, hc2, hs, ht⟩
  · exact .inl ⟨rfl, List.length_eq_zero_iff.1 hn⟩
  · refine .inr ⟨g, cap, rfl, hg, cur, hh, fun k hk => ⟨(xs.getD k (0, 0, 0)).2.2, ?_⟩⟩
    have := congrArg (fun l => l[k * 3 + 2]?) ht
    simp only [List.getElem?_take_of_lt (show k * 3 + 2 < xs.length * 3 by omega), Array.getElem?_toList] at this
    rw [this, flatS_get xs k 2 (by omega) hk]
    rfl

end Go.Proofs.Ytikjgfjahjlbaaa
