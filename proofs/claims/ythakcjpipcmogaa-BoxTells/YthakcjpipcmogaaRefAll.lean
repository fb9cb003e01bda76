/-
  What the document's own answer for layer 2 (tidehallref02) gives: All, Nodes: a box's midplanes, rising, in new memory.
-/
import Derived.Test.YthakcjpipcmogaaRefIn
import Derived.Test.YthakcjpipcmogaaLists
namespace Go.Proofs.Ythakcjpipcmogaa
open Go.RowKit Go.Shelf

attribute [local go_sem] Oper.semAt_some ext_const

/-- Of the first k midplanes those of a box. -/
def nodesTo (d0 d1 d2 : Int) (b : Bx) (k : Nat) : List Int := ((List.range k).filter (fun m : Nat => hasB d0 d1 d2 b m)).map (fun m : Nat => (m : Int))
def nodesB (d0 d1 d2 : Int) (b : Bx) : List Int := nodesTo d0 d1 d2 b (d0 * d1 * d2).toNat
theorem nodesTo_len (d0 d1 d2 : Int) (b : Bx) (k : Nat) : (nodesTo d0 d1 d2 b k).length ≤ k := by
  have := List.length_filter_le (fun m : Nat => hasB d0 d1 d2 b m) (List.range k)
  simpa [nodesTo] using this
theorem nodesTo_yes {d0 d1 d2 : Int} {b : Bx} {k : Nat} (h : hasB d0 d1 d2 b k = true) : nodesTo d0 d1 d2 b (k + 1) = nodesTo d0 d1 d2 b k ++ [(k : Int)] := by
  simp [nodesTo, List.range_succ, List.filter_append, h]
theorem nodesTo_no {d0 d1 d2 : Int} {b : Bx} {k : Nat} (h : hasB d0 d1 d2 b k = false) : nodesTo d0 d1 d2 b (k + 1) = nodesTo d0 d1 d2 b k := by
  simp [nodesTo, List.range_succ, List.filter_append, h]
theorem nodesB_len {d0 d1 d2 : Int} (hm : mayD d0 d1 d2) (b : Bx) : (nodesB d0 d1 d2 b).length ≤ 4096 := by
  have h1 := nodesTo_len d0 d1 d2 b (d0 * d1 * d2).toNat
  have h2 := N_bd hm
  unfold nodesB
  omega

set_option maxRecDepth 100000 in
set_option maxHeartbeats 2000000 in
theorem rall_calls {d0 d1 d2 : Int} {b : Bx} (w : World) (hm : mayD d0 d1 d2) (hb : mayB d0 d1 d2 b) :
    Calls Try.prog 43 #[A3 d0 d1 d2, B6 b] w fun e W' => ∃ v, e = .returned v ∧ Lst W' w.heap.size v (nodesB d0 d1 d2 b) ∧ Below w.heap.size w W' := by
  obtain ⟨N, hN⟩ : ∃ N, N = d0 * d1 * d2 := ⟨_, rfl⟩
  have HI : Hid (∀ (w : World) (m : Int), 0 ≤ m → m < N → Calls Try.prog 40 #[A3 d0 d1 d2, B6 b, I m] w fun e W' => e = .returned (.bool (hasB d0 d1 d2 b m)) ∧ Below w.heap.size w W') :=
    fun w m h0 h1 => rin_calls w hm hb ⟨h0, by omega⟩
  have HN : Hid (∀ w : World, Calls Try.prog 39 #[A3 d0 d1 d2] w fun e W' => e = .returned (I N) ∧ Below w.heap.size w W') := fun w => by rw [hN]; exact rn_calls w hm
  have hbd := N_bd hm
  rw [← hN] at hbd
  obtain ⟨hbd1, hbd2⟩ := hbd
  unfold nodesB
  rw [← hN]
  clear hN
  go_enter Try.func43, Try.ntmps43
  go_wp2
  obtain ⟨W, hW, hB0, b0, b1⟩ := two_start w #[I d0, I d1, I d2] (C6 b) 28 24
  rw [hW]
  clear hW
  go_loopw [5, 6] (fun v i wr => ∃ k : Nat, (k : Int) ≤ N ∧ i = .int .i64 k ∧ Lst wr W.heap.size v (nodesTo d0 d1 d2 b k) ∧ Below W.heap.size W wr) (fun _ i _ => N.toNat - (intOf i).toNat)
  case atStart => exact ⟨0, by omega, rfl, Lst.nil _ _, Below.refl _ _⟩
  case round =>
    obtain ⟨k, hk, rfl, hL, hT⟩ := hrel
    obtain ⟨c0, c1, c2, hz⟩ := b0.three hT
    go_wp2_with fail
    refine (HN.out _).mono ?_
    rintro e w1 ⟨rfl, hB1⟩
    have hL := hL.later hB1
    have hT := then_below hT hB1
    clear c0 c1 c2 hz hB1
    by_cases hlt : (k : Int) < N
    · obtain ⟨c0, c1, c2, hz⟩ := b0.three hT
      obtain ⟨⟨k0, k1, k2⟩, ⟨k3, k4, k5⟩, hz1⟩ := b1.six hT
      go_wp2_with fail
      refine (HI.out _ k (by omega) hlt).mono ?_
      rintro e w2 ⟨rfl, hB2⟩
      have hL := hL.later hB2
      have hT := then_below hT hB2
      clear c0 c1 c2 hz k0 k1 k2 k3 k4 k5 hz1 hB2
      cases hq : hasB d0 d1 d2 b k
      · go_wp2
        go_roundw
        case rel => exact ⟨k + 1, by omega, by go_num, by rw [nodesTo_no hq]; exact hL, hT⟩
        case measure => simp [intOf]; omega
      · go_wp2_with (at_builtin; refine wpList_app rfl _ _ rfl rfl rfl hL (by have := nodesTo_len d0 d1 d2 b k; omega) hT.size ?_; intro v' w3 hL3 hT3)
        have hT := hT.trans hT3
        rw [← nodesTo_yes hq] at hL3
        clear hT3 hL
        go_roundw
        case rel => exact ⟨k + 1, by omega, by go_num, hL3, hT⟩
        case measure => simp [intOf]; omega
    · have E : N.toNat = k := by omega
      have hL' : Lst w1 w.heap.size _ (nodesTo d0 d1 d2 b N.toNat) := (E ▸ hL).weak hB0.size
      clear hL E
      go_wp2
      go_ret
      exact ⟨_, rfl, hL', then_below hB0 hT⟩

end Go.Proofs.Ythakcjpipcmogaa
