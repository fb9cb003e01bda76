/-
  slices.Sort over a list of whole numbers of a call's own, by the library's contract: the same numbers, sorted.
-/
import Derived.Test.YtbbddolalglmnaaLists
import Derived.Shelf.Sort.Plain
import Derived.Shelf.Lay
import Derived.Sort.OwnSortedInts
import Derived.Ground.NamesProg
namespace Go.Proofs.Ytbbddolalglmnaa
open Go Go.RowKit Go.Shelf Go.Sort Go.Lib

shelf_lay Lays.n189 Nm 189 at Try as sortI

/-- 'slices.Sort(list)'. -/
theorem sort_calls {base : Nat} {v : Value} {xs : List Int} (w : World) (hL : Lst w base v xs) (hv : v ≠ .slice none 0 0) (hn : xs.length ≤ 100000) :
    Calls Try.prog 43 #[v] w fun e W' => e = .returned (.tuple #[]) ∧ Lst W' base v (xs.mergeSort fun x y => decide (x ≤ y)) ∧ Below base w W' ∧ w.grownBy W' v.ownBlock := by
  obtain ⟨h1, h2⟩ := hL
  rcases h2 with ⟨h0, _⟩ | ⟨g, cap, cur, rfl, hg, hh, hc, hc2, hs, ht⟩
  · exact absurd h0 hv
  · have ht' : cur.toList.take xs.length = xs.map (Value.int .i64) := by simpa using ht
    have hcon := Any.slices_Sort_int sortI g 0 cap xs w (holds_of_blockI hh ht') (Array.getElem?_eq_some_iff.1 hh).1 (by omega)
    change Calls Try.prog 43 _ _ _ at hcon
    refine hcon.mono ?_
    rintro e W' ⟨rfl, n, os, rfl⟩
    have hl : (xs.mergeSort fun x y => decide (x ≤ y)).length = xs.length := List.length_mergeSort _
    refine ⟨rfl, ?_, ?_, grownBy_sortedI _⟩
    · have := ownsRow_sortedI (n := n) (os := os) (ts := xs.mergeSort fun x y => decide (x ≤ y)) hl hg hh hc hc2 hs
      unfold Lst
      rw [hl]
      exact this
    · exact (Below.refl base w).grown (grownBy_sortedI _) (Nat.le_trans hg (Nat.le_of_lt (Array.getElem?_eq_some_iff.1 hh).1)) (fun k hk => by cases hk; exact hg)

end Go.Proofs.Ytbbddolalglmnaa
