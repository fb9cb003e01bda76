/-
  The statement SetHas, walked.
-/
import Derived.Test.YtckklobbbidonaaDoorJoinFacts
import Derived.Test.YtckklobbbidonaaDoorSetAlive
import Derived.Test.YtckklobbbidonaaDoorSetArg
namespace Go.Proofs.YtckklobbbidonaaDoor
open Go Go.RowKit Go.Shelf

set_option maxRecDepth 100000 in
set_option maxHeartbeats 8000000 in
theorem setHas_walk (n k : Int) (w : World) (hTab : TabOk w) (_wn : (Lit.int .i64 n).wf = true) {va : Value} {a : List Nat} (ha : ArgW w va a) {vb : Value} {b : List Nat} (hb : ArgW w vb b) (_wk : (Lit.int .i64 k).wf = true) :
    Calls Tryd.prog 7 #[I n, va, vb, I k] w fun e W' => e = .returned (.bool true) ∧ Below w.heap.size w W' := by
  have hav : ∃ ao cap, va = .slice ao a.length cap := by obtain ⟨ao, cap, e, _⟩ := ha.1.view; exact ⟨ao, cap, e⟩
  have hbv : ∃ ao cap, vb = .slice ao b.length cap := by obtain ⟨ao, cap, e, _⟩ := hb.1.view; exact ⟨ao, cap, e⟩
  obtain ⟨aa, ca, rfl⟩ := hav
  obtain ⟨ab, cb, rfl⟩ := hbv
  have hA := ha.1
  have hB := hb.1
  have AL := alive_calls w hTab
  clear ha hb _wn _wk hTab
  by_cases hla : a.length ≤ 300
  · by_cases hlb : b.length ≤ 300
    · have H1 := fun (w' : World) (h : Below w.heap.size w w') => has_calls w' (hA.later h) n k
      have H2 := fun (w' : World) (h : Below w.heap.size w w') => has_calls w' (hB.later h) n k
      obtain ⟨x, hx⟩ : ∃ x, x = hasR n a k := ⟨_, rfl⟩
      obtain ⟨y, hy⟩ : ∃ y, y = hasR n b k := ⟨_, rfl⟩
      obtain ⟨ea, hea⟩ : ∃ ea, ea = errAll n [a] := ⟨_, rfl⟩
      obtain ⟨eb, heb⟩ : ∃ eb, eb = errAll n [b] := ⟨_, rfl⟩
      rw [← hx, ← hea] at H1
      rw [← hy, ← heb] at H2
      by_cases h0 : ea = 0
      · by_cases h1 : eb = 0
        · have he := errAll_both (hea.symm.trans h0) (heb.symm.trans h1)
          have T := three_of hA.1 hB.1 he
          have J1 := fun (w' : World) (h : Below w.heap.size w w') => and_calls w' (hA.later h) (hB.later h) n
          have J2 := fun (w' : World) (h : Below w.heap.size w w') => or_calls w' (hA.later h) (hB.later h) n
          have J3 := fun (w' : World) (h : Below w.heap.size w w') => less_calls w' (hA.later h) (hB.later h) n
          obtain ⟨p1, p2, p3⟩ := T.has he k
          have K1 := fun (w' : World) (u : Value) (h : Wds w' u (joinW andW n a b)) => has_calls w' h n k
          have K2 := fun (w' : World) (u : Value) (h : Wds w' u (joinW orW n a b)) => has_calls w' h n k
          have K3 := fun (w' : World) (u : Value) (h : Wds w' u (joinW notW n a b)) => has_calls w' h n k
          rw [p1, T.e1, ← hx, ← hy] at K1
          rw [p2, T.e2, ← hx, ← hy] at K2
          rw [p3, T.e3, ← hx, ← hy] at K3
          rw [he] at J1 J2 J3
          have HX : Hid (x = true → 0 ≤ k ∧ k < n) := fun h => has_in (hx.symm.trans h)
          clear T p1 p2 p3 hx hy hea heb he hA hB
          generalize joinW andW n a b = z1 at *
          generalize joinW orW n a b = z2 at *
          generalize joinW notW n a b = z3 at *
          subst h0
          subst h1
          go_enter Tryd.func7, Tryd.ntmps7
          go_wp2_with fail
          refine AL.mono ?_
          rintro e w1 ⟨rfl, hT⟩
          go_wp2_with fail
          refine (H1 _ hT).mono ?_
          rintro e w2 ⟨rfl, hT2⟩
          have hT := then_below hT hT2
          clear hT2
          go_wp2_with fail
          refine (H2 _ hT).mono ?_
          rintro e w3 ⟨rfl, hT2⟩
          have hT := then_below hT hT2
          clear hT2
          go_wp2_with fail
          refine (J1 _ hT).mono ?_
          rintro e w4 ⟨c, rfl, hc, hT2⟩
          have hT := then_below hT hT2
          clear hT2
          go_wp2_with fail
          refine (J2 _ hT).mono ?_
          rintro e w5 ⟨d, rfl, hd, hT2⟩
          have hc := hc.later hT2
          have hT := then_below hT hT2
          clear hT2
          go_wp2_with fail
          refine (J3 _ hT).mono ?_
          rintro e w6 ⟨g, rfl, hg, hT2⟩
          have hc := hc.later hT2
          have hd := hd.later hT2
          have hT := then_below hT hT2
          clear hT2
          go_wp2_with fail
          refine (K1 _ _ hc.wds).mono ?_
          rintro e w7 ⟨rfl, hT2⟩
          have hd := hd.later hT2
          have hg := hg.later hT2
          have hT := then_below hT hT2
          clear hT2
          go_wp2_with fail
          refine (K2 _ _ hd.wds).mono ?_
          rintro e w8 ⟨rfl, hT2⟩
          have hg := hg.later hT2
          have hT := then_below hT hT2
          clear hT2
          go_wp2_with fail
          refine (K3 _ _ hg.wds).mono ?_
          rintro e w9 ⟨rfl, hT2⟩
          have hT := then_below hT hT2
          clear hT2 hc hd hg AL H1 H2 J1 J2 J3 K1 K2 K3
          cases x
          · cases y
            · go_wp2
              go_ret
              exact ⟨rfl, hT⟩
            · go_wp2
              go_ret
              exact ⟨rfl, hT⟩
          · obtain ⟨hk0, hk1⟩ := HX.out rfl
            cases y
            · go_wp2
              go_ret
              exact ⟨rfl, hT⟩
            · go_wp2
              go_ret
              exact ⟨rfl, hT⟩
        · have hyf : y = false := by rw [hy]; exact hasR_err (fun e => h1 (heb.trans e)) k
          clear hx hy hea heb hA hB
          subst hyf
          subst h0
          go_enter Tryd.func7, Tryd.ntmps7
          go_wp2_with fail
          refine AL.mono ?_
          rintro e w1 ⟨rfl, hT⟩
          go_wp2_with fail
          refine (H1 _ hT).mono ?_
          rintro e w2 ⟨rfl, hT2⟩
          have hT := then_below hT hT2
          clear hT2
          go_wp2_with fail
          refine (H2 _ hT).mono ?_
          rintro e w3 ⟨rfl, hT2⟩
          have hT := then_below hT hT2
          clear hT2 AL H1 H2
          cases x
          · go_wp2
            go_ret
            exact ⟨rfl, hT⟩
          · go_wp2
            go_ret
            exact ⟨rfl, hT⟩
      · have hxf : x = false := by rw [hx]; exact hasR_err (fun e => h0 (hea.trans e)) k
        clear hx hy hea heb hA hB
        subst hxf
        go_enter Tryd.func7, Tryd.ntmps7
        go_wp2_with fail
        refine AL.mono ?_
        rintro e w1 ⟨rfl, hT⟩
        go_wp2_with fail
        refine (H1 _ hT).mono ?_
        rintro e w2 ⟨rfl, hT2⟩
        have hT := then_below hT hT2
        clear hT2
        go_wp2_with fail
        refine (H2 _ hT).mono ?_
        rintro e w3 ⟨rfl, hT2⟩
        have hT := then_below hT hT2
        clear hT2 AL H1 H2
        go_wp2
        go_ret
        exact ⟨rfl, hT⟩
    · clear hA hB
      go_enter Tryd.func7, Tryd.ntmps7
      go_wp2_with fail
      refine AL.mono ?_
      rintro e w1 ⟨rfl, hT⟩
      go_wp2
      go_ret
      exact ⟨rfl, hT⟩
  · clear hA hB
    go_enter Tryd.func7, Tryd.ntmps7
    go_wp2_with fail
    refine AL.mono ?_
    rintro e w1 ⟨rfl, hT⟩
    go_wp2
    go_ret
    exact ⟨rfl, hT⟩

end Go.Proofs.YtckklobbbidonaaDoor
