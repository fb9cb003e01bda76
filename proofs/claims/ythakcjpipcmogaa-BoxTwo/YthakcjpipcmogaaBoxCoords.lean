/-
  box.side's coords: the coordinates of a side, rising, in new memory.
-/
import Derived.Test.YthakcjpipcmogaaBoxSide
import Derived.Test.YthakcjpipcmogaaLists
namespace Go.Proofs.Ythakcjpipcmogaa
open Go.RowKit Go.Shelf

attribute [local go_sem] Oper.semAt_some ext_const

def coordsTo (r b s : Int) (k : Nat) : List Int := ((List.range k).filter (fun j : Nat => hasS r b s j)).map (fun j : Nat => (j : Int))
def coordsS (r b s : Int) : List Int := coordsTo r b s r.toNat
theorem coordsTo_len (r b s : Int) (k : Nat) : (coordsTo r b s k).length ≤ k := by
  have := List.length_filter_le (fun j : Nat => hasS r b s j) (List.range k)
  simpa [coordsTo] using this
theorem coordsTo_yes {r b s : Int} {k : Nat} (h : hasS r b s k = true) : coordsTo r b s (k + 1) = coordsTo r b s k ++ [(k : Int)] := by
  simp [coordsTo, List.range_succ, List.filter_append, h]
theorem coordsTo_no {r b s : Int} {k : Nat} (h : hasS r b s k = false) : coordsTo r b s (k + 1) = coordsTo r b s k := by
  simp [coordsTo, List.range_succ, List.filter_append, h]

set_option maxRecDepth 100000 in
set_option maxHeartbeats 2000000 in
theorem coords_calls {r b s : Int} (w : World) (hr : r ≤ 16) (h : mayS r b s) :
    Calls Try.prog 41 #[A3 r b s] w fun e W' => ∃ v, e = .returned v ∧ Lst W' w.heap.size v (coordsS r b s) ∧ Below w.heap.size w W' := by
  have HH : Hid (∀ (w : World) (k : Int), 0 ≤ k → k < r → Calls Try.prog 38 #[A3 r b s, I k] w fun e W' => e = .returned (.bool (hasS r b s k)) ∧ Below w.heap.size w W') :=
    fun w k h0 h1 => has_calls s w hr h.2 ⟨h0, h1⟩
  obtain ⟨⟨s0, s1⟩, b0', b1'⟩ := h
  unfold coordsS
  go_enter Try.func41, Try.ntmps41
  have hB0 : Below w.heap.size w (w.alloc (.cells #[I r, I b, I s] 58)) := (Below.refl _ w).alloc (Nat.le_refl _) _
  have b0 := Blk.new w 58 #[I r, I b, I s]
  go_wp2_with (at_make; refine wpList_mk (base := (w.alloc (.cells #[I r, I b, I s] 58)).heap.size) rfl _ _ rfl s rfl rfl (by omega) (by omega) (Nat.le_refl _) ?_; intro v1 w1 hL1 hT1; obtain ⟨c0, c1, c2, hz⟩ := b0.three hT1)
  generalize w.alloc (.cells #[I r, I b, I s] 58) = W at *
  clear c0 c1 c2 hz
  go_loopw [3, 10] (fun v i wr => ∃ k : Nat, (k : Int) ≤ r ∧ i = .int .i64 k ∧ Lst wr W.heap.size v (coordsTo r b s k) ∧ Below W.heap.size W wr) (fun _ i _ => r.toNat - (intOf i).toNat)
  case atStart => exact ⟨0, by omega, rfl, hL1, hT1⟩
  case round =>
    clear hL1 hT1
    obtain ⟨k, hk, rfl, hL, hT⟩ := hrel
    obtain ⟨c0, c1, c2, hz⟩ := b0.three hT
    by_cases hlt : (k : Int) < r
    · go_wp2_with fail
      refine (HH.out _ k (by omega) hlt).mono ?_
      rintro e w2 ⟨rfl, hB2⟩
      have hL := hL.later hB2
      have hT := then_below hT hB2
      clear c0 c1 c2 hz hB2
      cases hq : hasS r b s k
      · go_wp2
        go_roundw
        case rel => exact ⟨k + 1, by omega, by go_num, by rw [coordsTo_no hq]; exact hL, hT⟩
        case measure => simp [intOf]; omega
      · go_wp2_with (at_builtin; refine wpList_app rfl _ _ rfl rfl rfl hL (by have := coordsTo_len r b s k; omega) hT.size ?_; intro v' w3 hL3 hT3)
        have hT := hT.trans hT3
        rw [← coordsTo_yes hq] at hL3
        clear hT3 hL
        go_roundw
        case rel => exact ⟨k + 1, by omega, by go_num, hL3, hT⟩
        case measure => simp [intOf]; omega
    · have E : r.toNat = k := by omega
      have hL' : Lst wr w.heap.size _ (coordsTo r b s r.toNat) := (E ▸ hL).weak hB0.size
      clear hL E
      go_wp2
      go_ret
      exact ⟨_, rfl, hL', then_below hB0 hT⟩

end Go.Proofs.Ythakcjpipcmogaa
