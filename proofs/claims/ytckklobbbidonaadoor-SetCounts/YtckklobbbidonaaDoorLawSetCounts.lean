/-
  The statement SetCounts, walked.
-/
import Derived.Test.YtckklobbbidonaaDoorJoinFacts
import Derived.Test.YtckklobbbidonaaDoorSetAlive
import Derived.Test.YtckklobbbidonaaDoorSetArg
namespace Go.Proofs.YtckklobbbidonaaDoor
open Go Go.RowKit Go.Shelf

theorem joinW_err {op : Nat → Nat → Nat} {n : Int} {a b : List Nat} (h : errAll n [a, b] ≠ 0) : joinW op n a b = [] := by rw [joinW, if_neg h]

set_option maxRecDepth 100000 in
set_option maxHeartbeats 8000000 in
theorem setCounts_walk (n : Int) (w : World) (hTab : TabOk w) (_wn : (Lit.int .i64 n).wf = true) {va : Value} {a : List Nat} (ha : ArgW w va a) {vb : Value} {b : List Nat} (hb : ArgW w vb b) :
    Calls Tryd.prog 6 #[I n, va, vb] w fun e W' => e = .returned (.bool true) ∧ Below w.heap.size w W' := by
  have hav : ∃ ao cap, va = .slice ao a.length cap := by obtain ⟨ao, cap, e, _⟩ := ha.1.view; exact ⟨ao, cap, e⟩
  have hbv : ∃ ao cap, vb = .slice ao b.length cap := by obtain ⟨ao, cap, e, _⟩ := hb.1.view; exact ⟨ao, cap, e⟩
  obtain ⟨aa, ca, rfl⟩ := hav
  obtain ⟨ab, cb, rfl⟩ := hbv
  have hA := ha.1
  have hB := hb.1
  have AL := alive_calls w hTab
  clear ha hb _wn hTab
  by_cases hla : a.length ≤ 300
  · by_cases hlb : b.length ≤ 300
    · have J1 := fun (w' : World) (h : Below w.heap.size w w') => and_calls w' (hA.later h) (hB.later h) n
      have J2 := fun (w' : World) (h : Below w.heap.size w w') => or_calls w' (hA.later h) (hB.later h) n
      have J3 := fun (w' : World) (h : Below w.heap.size w w') => less_calls w' (hA.later h) (hB.later h) n
      obtain ⟨er, her⟩ : ∃ er, er = errAll n [a, b] := ⟨_, rfl⟩
      by_cases h0 : er = 0
      · have he := her.symm.trans h0
        have T := three_of hA.1 hB.1 he
        have c1 := T.count he
        have c2 := T.whole he hA.1
        have c3 := T.apart
        have c4 := meet_eq hA.1 hB.1 he
        have c5 := in_eq hA.1 hB.1 he
        have e31 := errAll_both T.e3 T.e1
        obtain ⟨ea, eb⟩ := errAll_split he
        have M1 := fun (w' : World) (h : Below w.heap.size w w') => manyn_calls w' (hA.later h) n
        have M2 := fun (w' : World) (h : Below w.heap.size w w') => manyn_calls w' (hB.later h) n
        have M3 := fun (w' : World) (u : Value) (h : Wds w' u (joinW andW n a b)) => manyn_calls w' h n
        have M4 := fun (w' : World) (u : Value) (h : Wds w' u (joinW orW n a b)) => manyn_calls w' h n
        have M5 := fun (w' : World) (u : Value) (h : Wds w' u (joinW notW n a b)) => manyn_calls w' h n
        have P1 := fun (w' : World) (u v : Value) (hu : Wds w' u (joinW notW n a b)) (hv : Wds w' v (joinW andW n a b)) => or_calls w' hu hv n
        have P2 := fun (w' : World) (u v : Value) (hu : Wds w' u (joinW notW n a b)) (hv : Wds w' v (joinW andW n a b)) => meet_calls w' hu hv n
        have P3 := fun (w' : World) (h : Below w.heap.size w w') => meet_calls w' (hA.later h) (hB.later h) n
        have P4 := fun (w' : World) (h : Below w.heap.size w w') => in_calls w' (hA.later h) (hB.later h) n
        have SA := fun (w' : World) (h : Below w.heap.size w w') (u : Value) (hu : Wds w' u a) => same_calls w' hu (hA.later h) (by omega)
        rw [decide_eq_true rfl] at SA
        rw [manyR_in ea, ea] at M1
        rw [manyR_in eb, eb] at M2
        rw [manyR_in T.e1, T.e1] at M3
        rw [manyR_in T.e2, T.e2] at M4
        rw [manyR_in T.e3, T.e3] at M5
        rw [c2, e31] at P1
        rw [c3, e31] at P2
        rw [c4, he] at P3
        rw [c5, he] at P4
        rw [he] at J1 J2 J3
        have b1 := manyS_le a
        have b2 := manyS_le b
        have HC : Hid (manyS (joinW andW n a b) + manyS (joinW orW n a b) = manyS a + manyS b) := c1
        clear T c1 c2 c3 c4 c5 e31 ea eb her he hA hB
        generalize joinW andW n a b = z1 at *
        generalize joinW orW n a b = z2 at *
        generalize joinW notW n a b = z3 at *
        generalize manyS a = ma at *
        generalize manyS b = mb at *
        generalize manyS z1 = m1 at *
        generalize manyS z2 = m2 at *
        generalize manyS z3 = m3 at *
        have hm1 : m1 ≤ 38400 := by have := HC.out; omega
        have hm2 : m2 ≤ 38400 := by have := HC.out; omega
        have hma : ma ≤ 19200 := by omega
        have hmb : mb ≤ 19200 := by omega
        have hsum : ((m1 : Int) + (m2 : Int) == (ma : Int) + (mb : Int)) = true := by have := HC.out; rw [beq_iff_eq]; omega
        clear h0
        go_enter Tryd.func6, Tryd.ntmps6
        go_wp2_with fail
        refine AL.mono ?_
        rintro e w1 ⟨rfl, hT⟩
        go_wp2_with fail
        refine (J1 _ hT).mono ?_
        rintro e w2 ⟨c, rfl, hc, hT2⟩
        have hT := then_below hT hT2
        clear hT2 AL J1
        go_wp2_with fail
        refine (J2 _ hT).mono ?_
        rintro e w3 ⟨d, rfl, hd, hT2⟩
        have hc := hc.later hT2
        have hT := then_below hT hT2
        clear hT2 J2
        go_wp2_with fail
        refine (J3 _ hT).mono ?_
        rintro e w4 ⟨g, rfl, hg, hT2⟩
        have hc := hc.later hT2
        have hd := hd.later hT2
        have hT := then_below hT hT2
        clear hT2 J3
        go_wp2_with fail
        refine (M1 _ hT).mono ?_
        rintro e w5 ⟨rfl, hT2⟩
        have hc := hc.later hT2
        have hd := hd.later hT2
        have hg := hg.later hT2
        have hT := then_below hT hT2
        clear hT2 M1
        go_wp2_with fail
        refine (M2 _ hT).mono ?_
        rintro e w6 ⟨rfl, hT2⟩
        have hc := hc.later hT2
        have hd := hd.later hT2
        have hg := hg.later hT2
        have hT := then_below hT hT2
        clear hT2 M2
        go_wp2_with fail
        refine (M3 _ _ hc.wds).mono ?_
        rintro e w7 ⟨rfl, hT2⟩
        have hc := hc.later hT2
        have hd := hd.later hT2
        have hg := hg.later hT2
        have hT := then_below hT hT2
        clear hT2 M3
        go_wp2_with fail
        refine (M4 _ _ hd.wds).mono ?_
        rintro e w8 ⟨rfl, hT2⟩
        have hc := hc.later hT2
        have hg := hg.later hT2
        have hT := then_below hT hT2
        clear hT2 M4 hd
        go_wp2_with fail
        refine (M5 _ _ hg.wds).mono ?_
        rintro e w9 ⟨rfl, hT2⟩
        have hc := hc.later hT2
        have hg := hg.later hT2
        have hT := then_below hT hT2
        clear hT2 M5
        go_wp2_with fail
        refine (P1 _ _ _ hg.wds hc.wds).mono ?_
        rintro e w10 ⟨wh, rfl, hwh, hT2⟩
        have hc := hc.later hT2
        have hg := hg.later hT2
        have hT := then_below hT hT2
        clear hT2 P1
        go_wp2_with fail
        refine (P2 _ _ _ hg.wds hc.wds).mono ?_
        rintro e w11 ⟨rfl, hT2⟩
        have hwh := hwh.later hT2
        have hT := then_below hT hT2
        clear hT2 P2 hc hg
        go_wp2_with fail
        refine (P3 _ hT).mono ?_
        rintro e w12 ⟨rfl, hT2⟩
        have hwh := hwh.later hT2
        have hT := then_below hT hT2
        clear hT2 P3
        go_wp2_with fail
        refine (P4 _ hT).mono ?_
        rintro e w13 ⟨rfl, hT2⟩
        have hwh := hwh.later hT2
        have hT := then_below hT hT2
        clear hT2 P4
        go_wp2_with fail
        refine (SA _ hT _ hwh.wds).mono ?_
        rintro e w14 ⟨rfl, hT2⟩
        have hT := then_below hT hT2
        clear hT2 SA hwh
        go_wp2
        go_ret
        exact ⟨by simp, hT⟩
      · have k1 : joinW andW n a b = [] := joinW_err (fun e => h0 (her.trans e))
        have k2 : joinW orW n a b = [] := joinW_err (fun e => h0 (her.trans e))
        have k3 : joinW notW n a b = [] := joinW_err (fun e => h0 (her.trans e))
        rw [← her, k1] at J1
        rw [← her, k2] at J2
        rw [← her, k3] at J3
        clear her k1 k2 k3 hA hB
        go_enter Tryd.func6, Tryd.ntmps6
        go_wp2_with fail
        refine AL.mono ?_
        rintro e w1 ⟨rfl, hT⟩
        go_wp2_with fail
        refine (J1 _ hT).mono ?_
        rintro e w2 ⟨c, rfl, hc, hT2⟩
        have hT := then_below hT hT2
        obtain ⟨ac, cc, rfl, _⟩ := hc.wds.view
        clear hT2 AL J1 hc
        go_wp2_with fail
        refine (J2 _ hT).mono ?_
        rintro e w3 ⟨d, rfl, hd, hT2⟩
        have hT := then_below hT hT2
        obtain ⟨ad, cd, rfl, _⟩ := hd.wds.view
        clear hT2 J2 hd
        go_wp2_with fail
        refine (J3 _ hT).mono ?_
        rintro e w4 ⟨g, rfl, hg, hT2⟩
        have hT := then_below hT hT2
        obtain ⟨ag, cg, rfl, _⟩ := hg.wds.view
        clear hT2 J3 hg
        go_wp2
        go_ret
        exact ⟨by simp, hT⟩
    · clear hA hB
      go_enter Tryd.func6, Tryd.ntmps6
      go_wp2_with fail
      refine AL.mono ?_
      rintro e w1 ⟨rfl, hT⟩
      go_wp2
      go_ret
      exact ⟨rfl, hT⟩
  · clear hA hB
    go_enter Tryd.func6, Tryd.ntmps6
    go_wp2_with fail
    refine AL.mono ?_
    rintro e w1 ⟨rfl, hT⟩
    go_wp2
    go_ret
    exact ⟨rfl, hT⟩

end Go.Proofs.YtckklobbbidonaaDoor
