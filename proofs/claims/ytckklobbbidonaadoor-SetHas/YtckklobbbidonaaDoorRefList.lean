/-
  The numbers of a set, rising, as the document lists them: tidehallref03.All.
-/
import Derived.Test.YtckklobbbidonaaDoorRefSet
namespace Go.Proofs.YtckklobbbidonaaDoor
open Go Go.RowKit Go.Shelf

theorem Lst.its {W : World} {base : Nat} {v : Value} {xs : List Int} (h : Lst W base v xs) : Its W v xs := by
  obtain ⟨ao, cap, rfl, hv⟩ := h.view
  refine ⟨ao, cap, by simp, fun k hk => ?_⟩
  rw [List.length_map] at hk
  obtain ⟨g, cur, e, hb, hc⟩ := hv k hk
  exact ⟨g, 0, e, hb.lt, by rw [Nat.zero_add, hb.cell, hc]; simp [hk]⟩

/-- Numbers, as a list in memory has them. -/
def ofN (l : List Nat) : List Int := l.map fun m : Nat => (m : Int)
/-- A set's numbers, rising. -/
def numsW (ws : List Nat) : List Nat := listTo ws (64 * ws.length)
theorem ofN_len (l : List Nat) : (ofN l).length = l.length := by simp [ofN]
theorem ofN_app (l : List Nat) (m : Nat) : ofN (l ++ [m]) = ofN l ++ [(m : Int)] := by simp [ofN]
theorem ofN_get (l : List Nat) (k : Nat) : (ofN l).getD k 0 = ((l.getD k 0 : Nat) : Int) := by
  simp only [ofN, List.getD_eq_getElem?_getD, List.getElem?_map]
  cases l[k]? <;> rfl

set_option maxRecDepth 100000 in
set_option maxHeartbeats 4000000 in
theorem all_calls {v : Value} {ws : List Nat} (w : World) (h : Wds w v ws) (hs : ws.length ≤ 300) :
    Calls Tryd.prog 32 #[v] w fun e W' => ∃ u, e = .returned u ∧ Lst W' w.heap.size u (ofN (numsW ws)) ∧ Below w.heap.size w W' := by
  have HW : Hid (Wds w v ws) := h
  obtain ⟨ao, cap, rfl, _⟩ := h.view
  clear h
  have HN : Hid (ofN (numsW ws) = ofN (listTo ws (64 * ws.length))) := show _ = _ from rfl
  rw [HN.out]
  go_enter Tryd.func32, Tryd.ntmps32
  go_wp2
  go_loopw [3, 4] (fun s i wr => ∃ k : Nat, k ≤ 64 * ws.length ∧ i = .int .i64 k ∧ Lst wr w.heap.size s (ofN (listTo ws k)) ∧ Below w.heap.size w wr) (fun s i _ => 64 * ws.length - (intOf i).toNat)
  case atStart => exact ⟨0, by omega, rfl, Lst.nil _ _, Below.refl _ _⟩
  case round =>
    obtain ⟨k, hk, rfl, hL, hT⟩ := hrel
    by_cases hlt : (k : Int) < (64 : Int) * (ws.length : Int)
    · have TH := there_calls wr (HW.out.later hT) k (by omega)
      have hlen : (ofN (listTo ws k)).length ≤ 100000 := by rw [ofN_len]; have := listTo_len ws k; omega
      have H1 : Hid (hasW ws k = true → ofN (listTo ws (k + 1)) = ofN (listTo ws k) ++ [(k : Int)]) := fun h => by rw [listTo_yes h, ofN_app]
      have H0 : Hid (hasW ws k = false → ofN (listTo ws (k + 1)) = ofN (listTo ws k)) := fun h => by rw [listTo_no h]
      generalize hxs : ofN (listTo ws k) = xs at *
      clear hxs
      go_wp2_with fail
      refine TH.mono ?_
      rintro e w1 ⟨rfl, hw⟩
      subst hw
      cases hq : hasW ws k
      · have HE : Hid _ := H0.out hq
        clear hq
        go_wp2
        go_roundw
        case rel => exact ⟨k + 1, by omega, by go_num, by rw [HE.out]; exact hL, hT⟩
        case measure => simp [intOf]; omega
      · have HE : Hid _ := H1.out hq
        clear hq
        go_wp2_with (at_builtin; refine wpList_app rfl _ _ rfl rfl rfl hL hlen hT.size ?_; intro v' w3 hL3 hT3)
        go_wp2
        go_roundw
        case rel => exact ⟨k + 1, by omega, by go_num, by rw [HE.out]; exact hL3, hT.trans hT3⟩
        case measure => simp [intOf]; omega
    · have e : k = 64 * ws.length := by omega
      subst e
      go_wp2
      go_ret
      exact ⟨_, rfl, hL, hT⟩

end Go.Proofs.YtckklobbbidonaaDoor
