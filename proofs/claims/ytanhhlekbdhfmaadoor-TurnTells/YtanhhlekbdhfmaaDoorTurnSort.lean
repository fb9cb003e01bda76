/-
  slices.SortFunc over a list of what is asked for, by turn.compare: the same ones, sorted.
-/
import Derived.Test.YtanhhlekbdhfmaaDoorTurnLay
import Derived.Test.YtanhhlekbdhfmaaDoorTurnOrder
namespace Go.Proofs.YtanhhlekbdhfmaaDoor
open Go Go.RowKit Go.Shelf Go.Sort Go.Lib

theorem flat_eq (ws : List Wt) : (flatK cellsW 7 ws.toArray).toList = flatW ws := by
  apply List.ext_getElem?
  intro t
  by_cases ht : t < ws.length * 7
  · have h1 : t / 7 < ws.length := by omega
    have h2 : t % 7 < 7 := Nat.mod_lt _ (by omega)
    have e := flatW_get ws (t / 7) (t % 7) h2 h1
    rw [show t / 7 * 7 + t % 7 = t by omega] at e
    rw [e]
    simp [flatK, ht, h1, cellsW_len, h2]
  · rw [List.getElem?_eq_none (by simp; omega), List.getElem?_eq_none (by rw [flatW_len]; omega)]

theorem take_put (cur F : Array Value) (h : F.size ≤ cur.size) : (putCells id 0 F cur).toList.take F.size = F.toList := by
  apply List.ext_getElem?
  intro j
  by_cases hj : j < F.size
  · rw [List.getElem?_take_of_lt hj, Array.getElem?_toList]
    simp [putCells, hj, show j < cur.size by omega]
  · rw [List.getElem?_take_eq_none (by omega), List.getElem?_eq_none (by simp; omega)]

theorem holds_w {w : World} {g : Nat} {cur : Array Value} {e : TypeId} {ws : List Wt} (hb : w.heap[g]? = some (.cells cur e (0, 0))) (ht : cur.toList.take (ws.length * 7) = flatW ws) : HoldsK cellsW 7 w g 0 ws.toArray := by
  intro j hj
  have hj' : j < ws.length * 7 := by simpa using hj
  refine ⟨?_, by simp [World.frozen?, hb]⟩
  have h1 : (cur.toList.take (ws.length * 7))[j]? = (flatK cellsW 7 ws.toArray).toList[j]? := by rw [ht, flat_eq]
  rw [List.getElem?_take_of_lt hj'] at h1
  simp only [World.cell?, hb, Nat.zero_add]
  simp only [Option.isSome_none, Bool.false_eq_true, if_false]
  rw [← Array.getElem?_toList, h1, Array.getElem?_toList]
  simp [hj']

theorem heap_w {w : World} {g n : Nat} {os : Array Obj} {cur : Array Value} {e : TypeId} {fr : Nat × Nat} (d : Array Wt) (hb : w.heap[g]? = some (.cells cur e fr)) :
    (sortWorldK cellsW 7 w g 0 n d os).heap[g]? = some (.cells (putCells id 0 (flatK cellsW 7 d) cur) e fr) := by
  have hg : g < w.heap.size := (Array.getElem?_eq_some_iff.1 hb).1
  unfold sortWorldK putRowK
  rw [heap_grow_old _ _ (by simpa using hg)]
  simp [putRow, mapBlock, Sort.ahead, Array.getElem?_modify, hb, onCells]

theorem grown_w {w : World} {g n : Nat} {os : Array Obj} (d : Array Wt) : w.grownBy (sortWorldK cellsW 7 w g 0 n d os) (some g) := by
  unfold sortWorldK putRowK
  refine ⟨rfl, rfl, rfl, by simp, fun k hk hne => ?_⟩
  rw [heap_grow_old _ _ (by simpa using hk)]
  have : g ≠ k := fun e => hne (by rw [e])
  simp [putRow, mapBlock, Sort.ahead, Array.getElem?_modify, this]

/-- The program's order is one. -/
theorem lt_cmp (a b : Wt) : ltOf cmpT a b = lessT a b := by
  obtain ⟨x, y, z, p, q, r, t⟩ := a
  obtain ⟨x', y', z', p', q', r', t'⟩ := b
  unfold ltOf
  rw [Bool.eq_iff_iff, decide_eq_true_eq]
  simp only [cmpT, lessT]
  rcases cmpI_cases x x' with ⟨h, e⟩ | ⟨h, e⟩ | ⟨h, e⟩
  · rw [e]; simp [h, show x ≠ x' by omega]
  · rw [e]; simp [show ¬ x < x' by omega, show x ≠ x' by omega]
  · rw [e]
    subst h
    rcases cmpI_cases y y' with ⟨h, e⟩ | ⟨h, e⟩ | ⟨h, e⟩
    · rw [e]; simp [h, show y ≠ y' by omega]
    · rw [e]; simp [show ¬ y < y' by omega, show y ≠ y' by omega]
    · rw [e]
      subst h
      rcases cmpI_cases z z' with ⟨h, e⟩ | ⟨h, e⟩ | ⟨h, e⟩
      · rw [e]; simp [h, show z ≠ z' by omega]
      · rw [e]; simp [show ¬ z < z' by omega, show z ≠ z' by omega]
      · rw [e]
        subst h
        cases p <;> cases p' <;> cases q <;> cases q' <;> cases r <;> cases r' <;> simp [ffT, bit]

theorem less_iff (a b : Wt) : lessT a b = true ↔ (a.1 < b.1 ∨ (a.1 = b.1 ∧ (a.2.1 < b.2.1 ∨ (a.2.1 = b.2.1 ∧ (a.2.2.1 < b.2.2.1 ∨ (a.2.2.1 = b.2.2.1 ∧
    (bit a.2.2.2.1 * 4 + bit a.2.2.2.2.1 * 2 + bit a.2.2.2.2.2.1 < bit b.2.2.2.1 * 4 + bit b.2.2.2.2.1 * 2 + bit b.2.2.2.2.2.1))))))) := by
  obtain ⟨x, y, z, p, q, r, t⟩ := a
  obtain ⟨x', y', z', p', q', r', t'⟩ := b
  simp only [lessT]
  by_cases h1 : x = x'
  · subst h1
    by_cases h2 : y = y'
    · subst h2
      by_cases h3 : z = z'
      · subst h3
        cases p <;> cases p' <;> cases q <;> cases q' <;> cases r <;> cases r' <;> simp [bit]
      · simp [h3]
    · simp [h2]
  · simp [h1]

theorem swo_w : SWO (ltOf cmpT) where
  irrefl a := by
    rw [lt_cmp]
    cases h : lessT a a
    · rfl
    · rw [less_iff] at h
      omega
  trans a b c h1 h2 := by
    rw [lt_cmp, less_iff] at *
    omega
  ntrans a b c h1 h2 := by
    rw [lt_cmp] at *
    cases h : lessT a c
    · rfl
    · have k1 : ¬ lessT a b = true := by rw [h1]; simp
      have k2 : ¬ lessT b c = true := by rw [h2]; simp
      rw [less_iff] at k1 k2 h
      omega

/-- 'slices.SortFunc(list, compare)'. -/
theorem sort_calls {base : Nat} {v : Value} {ws : List Wt} (w : World) (hL : Wl w base v ws) (hn : ws.length ≤ 12) (h0 : ws ≠ []) :
    Calls Tryd.prog 20 #[v, .func (.func 21) #[] #[]] w fun e W' => e = .returned (.tuple #[]) ∧
      ∃ ws' : List Wt, Wl W' base v ws' ∧ ws'.Perm ws ∧ (∀ i j (hi : i < ws'.length) (hj : j < ws'.length), i < j → lessT ws'[j] ws'[i] = false) ∧ w.grownBy W' v.ownBlock := by
  obtain ⟨h1, h2⟩ := hL
  rcases h2 with ⟨_, hz⟩ | ⟨g, cap, cur, rfl, hg, hh, hc, hc2, hs, ht⟩
  · exact absurd (List.length_eq_zero_iff.1 hz) h0
  · have eg : ∀ args w, (callFunc 21 args).run Tryd.prog w = .ok (.enter 21 args) w := enters_of Tryd.func21 (by kernel_rfl) rfl
    have hcmp : CmpLays Tryd.prog 21 #[] cellsW 7 cmpT g 0 ws.toArray.size w := by
      intro m os dk _ a b
      obtain ⟨x, y, z, p, q, r, t⟩ := a
      obtain ⟨x', y', z', p', q', r', t'⟩ := b
      exact compare_calls x y z p q r t x' y' z' p' q' r' t' _
    have hlen : ∀ (n : Nat) (W : World), n ≤ 12 → Calls Tryd.prog (sortW_ren.f 15) #[.int .u64 n] W fun e w' => (∃ l : Int, e = .returned (.int .i64 l)) ∧ w' = W := fun n W h =>
      (Any.bits_Len bitsLenW n W (by omega) (by omega)).mono fun _ _ ⟨he, hw⟩ => ⟨⟨_, he⟩, hw⟩
    have hcon := AnyQ.slices_SortFunc_small_sorted sortW 7 (fun w => by kernel_rfl) (fun w => by kernel_rfl) cellsW cellsW_len (fun a u hu => by
      obtain ⟨x, y, z, p, q, r, t⟩ := a
      simp [cellsW] at hu
      rcases hu with rfl | rfl | rfl | rfl | rfl | rfl | rfl <;> rfl) cmpT 21 #[] swo_w g 0 cap ws.toArray w eg hcmp (holds_w hh ht) (Array.getElem?_eq_some_iff.1 hh).1 (by simpa using hn) hlen
    change Calls Tryd.prog 20 _ _ _ at hcon
    refine hcon.mono ?_
    rintro e W' ⟨rfl, d', n, os, hp, hsrt, rfl⟩
    have hsz : d'.size = ws.length := by simpa using hp.1
    refine ⟨rfl, d'.toList, ?_, ?_, ?_, grown_w d'⟩
    · have e1 : d'.toList.length = ws.length := by simpa using hsz
      have e2 : (flatK cellsW 7 d').size = ws.length * 7 := by rw [size_flatK, hsz]
      have e3 : (flatK cellsW 7 d').toList = flatW d'.toList := by rw [← flat_eq]
      refine ⟨by rw [flatW_len], .inr ⟨g, cap, _, by rw [e1], hg, heap_w d' hh, by rw [e1]; exact hc, hc2, by simpa [putCells] using hs, ?_⟩⟩
      rw [e1, ← e2, take_put _ _ (by rw [e2, hs]; exact Nat.mul_le_mul_right 7 hc), e3]
    · have := hp.2.2
      have e1 : d'.toList.length = ws.length := by simpa using hsz
      have e2 : (d'.toList.take ws.length).Perm ws := by simpa [hsz] using this
      rwa [List.take_of_length_le (Nat.le_of_eq e1)] at e2
    · intro i j hi hj hij
      have := hsrt i j (Nat.zero_le _) hij (by simpa [hsz] using hj)
      rw [lt_cmp] at this
      have gi : d'[i]! = d'[i]'(by simpa using hi) := getElem!_pos d' i (by simpa using hi)
      have gj : d'[j]! = d'[j]'(by simpa using hj) := getElem!_pos d' j (by simpa using hj)
      rw [gi, gj] at this
      simpa using this

end Go.Proofs.YtanhhlekbdhfmaaDoor
