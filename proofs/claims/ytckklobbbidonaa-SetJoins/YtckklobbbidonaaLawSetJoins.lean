/-
  The statement SetJoins, walked.
-/
import Derived.Test.YtckklobbbidonaaSetArg
import Derived.Test.YtckklobbbidonaaRefTwo
import Derived.Test.YtckklobbbidonaaRefMeetS
namespace Go.Proofs.Ytckklobbbidonaa
open Go Go.RowKit Go.Shelf

/-- A block of words, whichever. -/
def Wordy (W : World) (g l : Nat) : Prop := ∃ vs : Array Value, Blk W g 34 vs ∧ ∀ i, i < l → ∃ z : Int, vs[i]? = some (.int .u64 z)
theorem Wordy.cell {W : World} {g l i : Nat} (h : Wordy W g l) (hi : i < l) : (∃ z : Int, W.cell? ⟨g, i, none⟩ = some (.int .u64 z)) ∧ W.frozen? ⟨g, i, none⟩ = false := by
  obtain ⟨vs, hb, hv⟩ := h
  obtain ⟨z, hz⟩ := hv i hi
  exact ⟨⟨z, by rw [hb.cell, hz]⟩, hb.frozen i⟩
theorem Wordy.set {W : World} {g l : Nat} (h : Wordy W g l) (i : Nat) (z : Int) : Wordy (W.setCell ⟨g, i, none⟩ (.int .u64 z)) g l := by
  obtain ⟨vs, hb, hv⟩ := h
  refine ⟨_, hb.set i _, fun j hj => ?_⟩
  obtain ⟨z', hz'⟩ := hv j hj
  by_cases e : i = j
  · subst e
    refine ⟨z, ?_⟩
    have hlt : i < vs.size := (Array.getElem?_eq_some_iff.1 hz').1
    simp [hlt]
  · refine ⟨z', ?_⟩
    rw [← hz']
    simp [e]
theorem Set1.wordy {W : World} {base : Nat} {v : Value} {ws : List Nat} (h : Set1 W base v ws) : ∃ g, v = .slice (some ⟨g, 0, none⟩) ws.length ws.length ∧ base ≤ g ∧ Wordy W g ws.length := by
  obtain ⟨h1, g, e, hg, hb⟩ := h
  exact ⟨g, e, hg, _, hb, fun i hi => ⟨(ws.getD i 0 : Nat), by simp [hi]⟩⟩

set_option maxRecDepth 100000 in
set_option maxHeartbeats 8000000 in
theorem setJoins_walk (n : Int) {va vb : Value} {a b : List Nat} (w : World) (ha : ArgW w va a) (hb : ArgW w vb b) :
    Calls Try.prog 3 #[I n, va, vb] w fun e W' => e = .returned (.bool true) ∧ Below w.heap.size w W' := by
  by_cases hla : a.length ≤ 300
  · by_cases hlb : b.length ≤ 300
    · have C1 := fun (w' : World) (u : Value) (hu : Wds w' u a) (hv : Wds w' vb b) => and_calls w' hu hv n
      have D1 := fun (w' : World) (hu : Wds w' va a) (hv : Wds w' vb b) => rand_calls w' hu hv n
      have C2 := fun (w' : World) (u : Value) (hu : Wds w' u a) (hv : Wds w' vb b) => or_calls w' hu hv n
      have D2 := fun (w' : World) (hu : Wds w' va a) (hv : Wds w' vb b) => ror_calls w' hu hv n
      have C3 := fun (w' : World) (u : Value) (hu : Wds w' u a) (hv : Wds w' vb b) => less_calls w' hu hv n
      have D3 := fun (w' : World) (hu : Wds w' va a) (hv : Wds w' vb b) => rless_calls w' hu hv n
      have C4 := fun (w' : World) (u : Value) (hu : Wds w' u a) (hv : Wds w' vb b) => meet_calls w' hu hv n
      have D4 := fun (w' : World) (hu : Wds w' va a) (hv : Wds w' vb b) => rmeet_calls w' hu hv n
      have C5 := fun (w' : World) (u : Value) (hu : Wds w' u a) (hv : Wds w' vb b) => in_calls w' hu hv n
      have D5 := fun (w' : World) (hu : Wds w' va a) (hv : Wds w' vb b) => rin_calls w' hu hv n
      have l1 : (joinW andW n a b).length ≤ 100000 := by have := joinW_len (op := andW) (n := n) (a := a) (b := b); omega
      have l2 : (joinW orW n a b).length ≤ 100000 := by have := joinW_len (op := orW) (n := n) (a := a) (b := b); omega
      have l3 : (joinW notW n a b).length ≤ 100000 := by have := joinW_len (op := notW) (n := n) (a := a) (b := b); omega
      generalize errAll n [a, b] = er at *
      generalize joinW andW n a b = z1 at *
      generalize joinW orW n a b = z2 at *
      generalize joinW notW n a b = z3 at *
      generalize meetB n a b = q4 at *
      generalize inB n a b = q5 at *
      have hav : ∃ ao cap, va = .slice ao a.length cap := by obtain ⟨ao, cap, e, _⟩ := ha.1.view; exact ⟨ao, cap, e⟩
      have hbv : ∃ ao cap, vb = .slice ao b.length cap := by obtain ⟨ao, cap, e, _⟩ := hb.1.view; exact ⟨ao, cap, e⟩
      obtain ⟨aa, ca, rfl⟩ := hav
      obtain ⟨ab, cb, rfl⟩ := hbv
      go_enter Try.func3, Try.ntmps3
      go_wp2_with (at_builtin; refine wpList_copy rfl _ _ rfl rfl rfl ha (by omega) ?_; intro vo w1 hO hT1)
      have hA := ha.1.later hT1
      have hB := hb.1.later hT1
      clear ha hb
      go_wp2_with fail
      refine (C1 _ _ hO hB).mono ?_
      rintro e w2 ⟨c, rfl, hc, hT⟩
      clear C1
      go_wp2_with fail
      refine (D1 _ (hA.later hT) (hB.later hT)).mono ?_
      rintro e w3 ⟨d, rfl, hd, hT3⟩
      have hc := hc.later hT3
      have hT := then_below hT hT3
      clear D1 hT3
      go_wp2_with fail
      refine (C2 _ _ (hO.later hT) (hB.later hT)).mono ?_
      rintro e w4 ⟨g, rfl, hg, hT3⟩
      have hc := hc.later hT3
      have hd := hd.later hT3
      have hT := then_below hT hT3
      clear C2 hT3
      go_wp2_with fail
      refine (D2 _ (hA.later hT) (hB.later hT)).mono ?_
      rintro e w5 ⟨i, rfl, hi, hT3⟩
      have hc := hc.later hT3
      have hd := hd.later hT3
      have hg := hg.later hT3
      have hT := then_below hT hT3
      clear D2 hT3
      go_wp2_with fail
      refine (C3 _ _ (hO.later hT) (hB.later hT)).mono ?_
      rintro e w6 ⟨k, rfl, hk, hT3⟩
      have hc := hc.later hT3
      have hd := hd.later hT3
      have hg := hg.later hT3
      have hi := hi.later hT3
      have hT := then_below hT hT3
      clear C3 hT3
      go_wp2_with fail
      refine (D3 _ (hA.later hT) (hB.later hT)).mono ?_
      rintro e w7 ⟨m, rfl, hm, hT3⟩
      have hc := hc.later hT3
      have hd := hd.later hT3
      have hg := hg.later hT3
      have hi := hi.later hT3
      have hk := hk.later hT3
      have hT := then_below hT hT3
      clear D3 hT3
      go_wp2_with fail
      refine (C4 _ _ (hO.later hT) (hB.later hT)).mono ?_
      rintro e w8 ⟨rfl, hT3⟩
      have hc := hc.later hT3
      have hd := hd.later hT3
      have hg := hg.later hT3
      have hi := hi.later hT3
      have hk := hk.later hT3
      have hm := hm.later hT3
      have hT := then_below hT hT3
      clear C4 hT3
      go_wp2_with fail
      refine (D4 _ (hA.later hT) (hB.later hT)).mono ?_
      rintro e w9 ⟨rfl, hT3⟩
      have hc := hc.later hT3
      have hd := hd.later hT3
      have hg := hg.later hT3
      have hi := hi.later hT3
      have hk := hk.later hT3
      have hm := hm.later hT3
      have hT := then_below hT hT3
      clear D4 hT3
      go_wp2_with fail
      refine (C5 _ _ (hO.later hT) (hB.later hT)).mono ?_
      rintro e w10 ⟨rfl, hT3⟩
      have hc := hc.later hT3
      have hd := hd.later hT3
      have hg := hg.later hT3
      have hi := hi.later hT3
      have hk := hk.later hT3
      have hm := hm.later hT3
      have hT := then_below hT hT3
      clear C5 hT3
      go_wp2_with fail
      refine (D5 _ (hA.later hT) (hB.later hT)).mono ?_
      rintro e w11 ⟨rfl, hT3⟩
      have hc := hc.later hT3
      have hd := hd.later hT3
      have hg := hg.later hT3
      have hi := hi.later hT3
      have hk := hk.later hT3
      have hm := hm.later hT3
      have hT := then_below hT hT3
      clear D5 hT3
      go_wp2_with fail
      have S1 := same_calls _ hc.wds hd.wds l1
      rw [decide_eq_true rfl] at S1
      refine S1.mono ?_
      rintro e w12 ⟨rfl, hT3⟩
      have hc := hc.later hT3
      have hg := hg.later hT3
      have hi := hi.later hT3
      have hk := hk.later hT3
      have hm := hm.later hT3
      have hT := then_below hT hT3
      clear S1 hT3 hd
      go_wp2_with fail
      have S2 := same_calls _ hg.wds hi.wds l2
      rw [decide_eq_true rfl] at S2
      refine S2.mono ?_
      rintro e w13 ⟨rfl, hT3⟩
      have hc := hc.later hT3
      have hk := hk.later hT3
      have hm := hm.later hT3
      have hT := then_below hT hT3
      clear S2 hT3 hg hi
      go_wp2_with fail
      have S3 := same_calls _ hk.wds hm.wds l3
      rw [decide_eq_true rfl] at S3
      refine S3.mono ?_
      rintro e w14 ⟨rfl, hT3⟩
      have hc := hc.later hT3
      have hT := then_below hT hT3
      clear S3 hT3 hk hm
      have SO := fun (W : World) (h : Below w1.heap.size w1 W) => same_calls W (hO.later h) (hA.later h) (by omega)
      rw [decide_eq_true rfl] at SO
      clear hO hA hB
      rcases hc with hc | ⟨rfl, rfl⟩
      · obtain ⟨gc, rfl, hgc, hWd⟩ := hc.wordy
        clear hc
        generalize z1.length = lc at *
        go_wp2
        go_loopw [29] (fun i wr => ∃ k : Nat, k ≤ lc ∧ i = .int .i64 k ∧ Wordy wr gc lc ∧ Below w1.heap.size w1 wr) (fun i _ => lc - (intOf i).toNat)
        case atStart => exact ⟨0, by omega, rfl, hWd, hT⟩
        case round =>
          clear hWd hT
          obtain ⟨k, hk, rfl, hWd, hT⟩ := hrel
          by_cases hlt : (k : Int) < (lc : Int)
          · obtain ⟨⟨z, hz⟩, hf⟩ := hWd.cell (i := k) (by omega)
            have hWS := fun z => hWd.set k z
            have hTS := fun z : Int => hT.setCell (p := ⟨gc, k, none⟩) hgc (.int .u64 z)
            go_wp2
            go_roundw
            case rel => exact ⟨k + 1, by omega, by go_num, hWS _, hTS _⟩
            case measure => simp [intOf]; omega
          · go_wp2_with fail
            refine (SO _ hT).mono ?_
            rintro e w15 ⟨rfl, hT3⟩
            go_wp2
            go_ret
            exact ⟨rfl, then_below hT1 (then_below hT hT3)⟩
      · go_wp2
        go_loopw [29] (fun i wr => i = .int .i64 0 ∧ Below w1.heap.size w1 wr) (fun i _ => 0)
        case atStart => exact ⟨rfl, hT⟩
        case round =>
          clear hT
          obtain ⟨rfl, hT⟩ := hrel
          go_wp2_with fail
          refine (SO _ hT).mono ?_
          rintro e w15 ⟨rfl, hT3⟩
          go_wp2
          go_ret
          exact ⟨rfl, then_below hT1 (then_below hT hT3)⟩
    · have hav : ∃ ao cap, va = .slice ao a.length cap := by obtain ⟨ao, cap, e, _⟩ := ha.1.view; exact ⟨ao, cap, e⟩
      have hbv : ∃ ao cap, vb = .slice ao b.length cap := by obtain ⟨ao, cap, e, _⟩ := hb.1.view; exact ⟨ao, cap, e⟩
      obtain ⟨aa, ca, rfl⟩ := hav
      obtain ⟨ab, cb, rfl⟩ := hbv
      clear ha hb
      go_enter Try.func3, Try.ntmps3
      go_wp2
      go_ret
      exact ⟨rfl, Below.refl _ _⟩
  · have hav : ∃ ao cap, va = .slice ao a.length cap := by obtain ⟨ao, cap, e, _⟩ := ha.1.view; exact ⟨ao, cap, e⟩
    obtain ⟨aa, ca, rfl⟩ := hav
    clear ha hb
    go_enter Try.func3, Try.ntmps3
    go_wp2
    go_ret
    exact ⟨rfl, Below.refl _ _⟩

end Go.Proofs.Ytckklobbbidonaa
