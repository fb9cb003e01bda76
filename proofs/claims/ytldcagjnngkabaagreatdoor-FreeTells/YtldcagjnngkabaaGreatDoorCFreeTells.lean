/-
  FreeTells answers true for all calendars, places, sets, spans, moments and lengths: Avoid, Holds and Soon answer as the document does, and what is handed in stays (the table of math/bits starts as its text lays it).
-/
import Derived.Test.YtldcagjnngkabaaGreatDoorPart39
import Derived.Test.YtldcagjnngkabaaGreatDoorPart27
import Derived.Test.YtldcagjnngkabaaGreatDoorPart38
import Derived.Test.YtldcagjnngkabaaGreatDoorPart28
import Derived.Test.YtldcagjnngkabaaGreatDoorTie
import Derived.Test.YtldcagjnngkabaaGreatDoorCards
namespace Go.Proofs.YtldcagjnngkabaaGreatDoor.freeTells
open Go Go.ChangeShapes Go.WideShapes Go.ChangeAt Go.RowKit
set_option linter.unusedVariables false

set_option maxRecDepth 100000 in
theorem lifted (os : Os) (started : os.Started) (H : Type) (enc : TypeId × Value → H) :
    ReturnsInHanded {} Tryz.checked os 4 .any (fun w args => (Rows.freeTellsSpec.pre enc Tryz.prog Tryz.f4 [] false w args ∧ laidMetH Tryz.prog tabLaid w) ∧ sizedMet enc Tryz.prog Tryz.f4 (OpenSpec.ofChange Rows.freeTellsSpec) false w args)
      (Rows.freeTellsSpec.post enc Tryz.prog Tryz.f4 false true false false) := by
  refine returnsInHanded_of_change_and (C := Tryz.checked) (X := fun w _ => laidMetH Tryz.prog tabLaid w) (fun _ _ _ hh h => h.of_heap hh) own started (by kernel_rfl) Tryz.func4
    (ChangeSpec.witness_shaped (enc := enc) (C := Tryz.checked) (os := os) (X := fun w _ => laidMetH Tryz.prog tabLaid w) false (World.doorLaid Tryz.prog 14 os) #[Y5 0 0 0 (.slice none 0 0) (.slice none 0 0), P9 ⟨0, 0, 0, 0, 0, 0⟩ false false false, .slice none 0 0, .slice none 0 0, S2 0 0, .int .i64 0, .int .i64 0] 8 rfl (World.shaped_of_RefB (by kernel_rfl) (by kernel_rfl)) (by kernel_rfl) (by kernel_rfl) (by kernel_rfl) (door_met os _)) ?_
  intro W base args ds gs before hval0 hW _ hsz0 hLaid _
  have hval : ∀ (j : Nat) t v, Tryz.f4.params[j]? = some t → args[j]? = some v → Value.okWide Tryz.prog W .any base t v := hval0
  have hW' := hW
  obtain ⟨p, q, hA0, hV, rfl, hfz, hnd⟩ := hW
  have hA : DataW.TrodAll enc Tryz.prog W 0 (fun _ => true) true Tryz.f4.params.toList args.toList ds p := hA0
  rw [Tryz.params4] at hA hval
  obtain ⟨v0, vs0, d0, ds0, p0, q0, hargs, rfl, rfl, h0, r0⟩ := trodAll_cons hA
  obtain ⟨v1, vs1, d1, ds1, p1, q1, rfl, rfl, rfl, h1, r1⟩ := trodAll_cons r0
  obtain ⟨v2, vs2, d2, ds2, p2, q2, rfl, rfl, rfl, h2, r2⟩ := trodAll_cons r1
  obtain ⟨v3, vs3, d3, ds3, p3, q3, rfl, rfl, rfl, h3, r3⟩ := trodAll_cons r2
  obtain ⟨v4, vs4, d4, ds4, p4, q4, rfl, rfl, rfl, h4, r4⟩ := trodAll_cons r3
  obtain ⟨v5, vs5, d5, ds5, p5, q5, rfl, rfl, rfl, h5, r5⟩ := trodAll_cons r4
  obtain ⟨v6, vs6, d6, ds6, p6, q6, rfl, rfl, rfl, h6, r6⟩ := trodAll_cons r5
  obtain ⟨rfl, rfl, rfl⟩ := trodAll_nil r6
  obtain rfl : args = #[v0, v1, v2, v3, v4, v5, v6] := by cases args; simp_all
  obtain ⟨rfl, rfl⟩ := trodVars_none hV
  have hsz : (DataW.weightsEach Tryz.prog [26, 43, 30, 30, 36, 3, 3] [d0, d1, d2, d3, d4, d5, d6]).all (· ≤ reachBytes) = true := hsz0
  have k0 := h0
  have lt0 := trod_lt' k0
  have k1 := h1
  have lt1 := trod_lt' k1
  have k2 := h2
  have lt2 := trod_lt' k2
  have k3 := h3
  have lt3 := trod_lt' k3
  have k4 := h4
  have lt4 := trod_lt' k4
  have k5 := h5
  have lt5 := trod_lt' k5
  have k6 := h6
  have lt6 := trod_lt' k6
  obtain ⟨a0, b0, c0, n0, l0, ns0, ls0, rfl, wn0, wl0, bn0, bl0⟩ := open_yard (j := 0) (hval 0 26 v0 rfl rfl) h0 rfl rfl hsz
  obtain ⟨x1, p1', q1', r1', rfl⟩ := open_place (hval 1 43 v1 rfl rfl) h1
  obtain ⟨a2, wa2⟩ := open_set (hval 2 30 v2 rfl rfl) h2
  obtain ⟨a3, wa3⟩ := open_set (hval 3 30 v3 rfl rfl) h3
  obtain ⟨f4, t4, rfl⟩ := open_span (hval 4 36 v4 rfl rfl) h4
  obtain ⟨a5, rfl, wa5⟩ := open_num Tryz.underlying3 (hval 5 3 v5 rfl rfl) h5
  obtain ⟨a6, rfl, wa6⟩ := open_num Tryz.underlying3 (hval 6 3 v6 rfl rfl) h6
  have hTab := tab_of hLaid
  clear hA0 hval0
  refine (freeTells_walk a0 b0 c0 x1 p1' q1' r1' f4 t4 a5 a6 W hTab wn0 wl0 bn0 bl0 wa2 wa3 wa5 wa6).mono fun e W' ⟨he, bel⟩ => ?_
  subst he
  exact ⟨_, rfl, _, _, _, [], _, [], hW', trodAll_mk1 (shut_bool Tryz.underlying4 _), (trodAll_cons_mk (Below.trod laidOut (by kernel_rfl) (of_decide_eq_true (by kernel_rfl)) k0 bel lt0) (trodAll_cons_mk (Below.trod laidOut (by kernel_rfl) (of_decide_eq_true (by kernel_rfl)) k1 bel lt1) (trodAll_cons_mk (Below.trod laidOut (by kernel_rfl) (of_decide_eq_true (by kernel_rfl)) k2 bel lt2) (trodAll_cons_mk (Below.trod laidOut (by kernel_rfl) (of_decide_eq_true (by kernel_rfl)) k3 bel lt3) (trodAll_cons_mk (Below.trod laidOut (by kernel_rfl) (of_decide_eq_true (by kernel_rfl)) k4 bel lt4) (trodAll_cons_mk (Below.trod laidOut (by kernel_rfl) (of_decide_eq_true (by kernel_rfl)) k5 bel lt5) (trodAll_cons_mk (Below.trod laidOut (by kernel_rfl) (of_decide_eq_true (by kernel_rfl)) k6 bel lt6) trodAll_mk0))))))), rfl, bel.frame _, fun h => by cases h⟩

theorem proved : Rows.FreeTellsSaid :=
  OpenClaim.holds_of_wide 4 Tryz.f4 rfl rfl rfl rfl rfl rfl rfl ⟨rfl, rfl, rfl, rfl, rfl⟩ rfl rfl rfl rfl rfl (by kernel_rfl) Tryz.func4 (by kernel_rfl)
    (of_decide_eq_true (by kernel_rfl)) (by unfold Func.isWrapper; first | (rw [if_pos (by decide +kernel)]; kernel_rfl) | (rw [if_neg (by decide +kernel)]; exact ⟨rfl, rfl⟩))
    (fun os started H enc _ => lifted os started H enc)

theorem card : Rows.FreeTellsCardSaid :=
  Claim7.holds_tied_plain_at .later [] [.data] true (true, "c7de11e0d8c03bf8393ef37553e08d07c169c422493d26f9c2146ca842903a9a") false
    proved (fun _ h => by cases h) (by kernel_rfl) (fun _ h => by cases h) freeTells_row_tie rfl ⟨rfl, rfl⟩ (by kernel_rfl) rfl
    (fun f fn hf hfn => by
      obtain rfl : f = 4 := Option.some.inj ((show Tryz.prog.funcNamed "tidehall/tidehalllaw11.FreeTells" = some 4 by kernel_rfl).symm.trans hf) |>.symm
      obtain rfl : fn = Tryz.f4 := (Option.some.inj (Tryz.func4.symm.trans hfn)).symm
      exact ⟨by kernel_rfl, fun j t ht => by
        rw [Tryz.params4] at ht
        exact noS_stand_in _ (by kernel_rfl) j t ht⟩)
    (by kernel_rfl)

end Go.Proofs.YtldcagjnngkabaaGreatDoor.freeTells

namespace Go.Proofs.YtldcagjnngkabaaGreatDoor
theorem freeTells_holds : Rows.FreeTellsCardSaid := freeTells.card
#print axioms freeTells_holds
end Go.Proofs.YtldcagjnngkabaaGreatDoor
