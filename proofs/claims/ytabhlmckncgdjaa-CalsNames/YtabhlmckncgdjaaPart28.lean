/-
  CalsNames: the walk. (Written by tools/gen/cals_names.py.)
-/
import Derived.Test.YtabhlmckncgdjaaPart27
import Derived.Test.YtabhlmckncgdjaaPart1
import Derived.Test.YtabhlmckncgdjaaRows
import Derived.ProofKit
import Derived.OpenShut
import Derived.ChangeOld
import Derived.Below
import Derived.Laws.IdiomArrays
namespace Go.Proofs.Ytabhlmckncgdjaa
open Go Go.RowKit Go.Shelf

attribute [local go_sem] Oper.semAt_some ext_const

theorem names_e1 : putYE 2 1 1 twoN twoL [3] [0] 2 9 6 = 80 := by decide +kernel
theorem names_e2 : putYE 2 1 1 twoN twoL [4] [0] 2 9 6 = 8 := by decide +kernel
theorem names_e3 : putYE 2 1 1 twoN twoL [0] [0] 2 9 0 = 2 := by decide +kernel
theorem names_put {a b : Nat} {o er : Int} (ha : a < 18446744073709551616) (hb : b < 18446744073709551616) (he : putYE 2 1 1 twoN twoL [a] [b] 2 9 o = er) (h0 : er ≠ 0) :
    Hid (∀ w n l g g', Yl w n twoN → Yl w l twoL → Blk w g 32 #[U a] → Blk w g' 32 #[U b] → Calls Try.prog 10 #[Y5 2 1 1 n l, I o, .slice (some ⟨g, 0, none⟩) 1 1, .slice (some ⟨g', 0, none⟩) 1 1, S2 2 9] w fun e W' => ∃ ao1 n1 c1 ao2 n2 c2, e = .returned (.tuple #[Y5 0 0 0 (.slice ao1 n1 c1) (.slice ao2 n2 c2), I er]) ∧ Below w.heap.size w W') := by
  intro w n l g g' h1 h2 h3 h4
  have := yPut_calls (a := 2) (b := 1) (c := 1) (f := 2) (t := 9) (o := o) w h1 h2 (wds_lit ha h3) (wds_lit hb h4)
  rw [he] at this
  simp only [dim_no h0, rows_no h0] at this
  refine this.mono ?_
  rintro e W' ⟨u, v, rfl, hU, hV, hB⟩
  obtain ⟨ao1, n1, c1, rfl⟩ := hU.slice
  obtain ⟨ao2, n2, c2, rfl⟩ := hV.slice
  exact ⟨_, _, _, _, _, _, rfl, hB⟩
theorem empty_bad (w : World) : Calls Try.prog 12 #[Y5 0 0 0 (.slice none 0 0) (.slice none 0 0)] w fun e W' => e = .returned (I 8) ∧ Below w.heap.size w W' := ycheck_bad w (fun h => by have := h.1.1; omega)

set_option maxRecDepth 100000 in
set_option maxHeartbeats 16000000 in
theorem calsNames_walk (w : World) : Calls Try.prog 3 #[] w fun e W' => e = .returned (.bool true) ∧ Below w.heap.size w W' := by
  have H2 : Hid (∀ w, Calls Try.prog 9 #[] w fun e W' => ∃ u v, e = .returned (.tuple #[Y5 2 1 1 u v, .bool true]) ∧ Yo W' w.heap.size u twoN ∧ Yo W' w.heap.size v twoL ∧ Below w.heap.size w W') := two_calls2
  have HA : Hid (∀ w, Calls Try.prog 11 #[] w fun e W' => e = .returned (.bool true) ∧ Below w.heap.size w W') := aliveY_calls
  have HC : Hid (∀ w, Calls Try.prog 12 #[Y5 0 0 0 (.slice none 0 0) (.slice none 0 0)] w fun e W' => e = .returned (I 8) ∧ Below w.heap.size w W') := empty_bad
  have P1 := names_put (a := 3) (b := 0) (by decide) (by decide) names_e1 (by decide)
  have P2 := names_put (a := 4) (b := 0) (by decide) (by decide) names_e2 (by decide)
  have P3 := names_put (a := 0) (b := 0) (by decide) (by decide) names_e3 (by decide)
  go_enter Try.func3, Try.ntmps3
  go_wp2_with fail
  refine (H2.out _).mono ?_
  rintro e w1 ⟨u, v, rfl, hU, hV, hT⟩
  obtain ⟨ao1, n1, c1, rfl⟩ := hU.slice
  obtain ⟨ao2, n2, c2, rfl⟩ := hV.slice
  obtain ⟨W1, hW1, hB1, hy, hm, hl⟩ := three_boxes w1 (K5 2 1 1 (.slice ao1 n1 c1) (.slice ao2 n2 c2)) #[.int .u64 3] #[.int .u64 0] 26 32 32
  have HW1 : Hid (((w1.alloc (.cells (K5 2 1 1 (.slice ao1 n1 c1) (.slice ao2 n2 c2)) 26)).alloc (.cells #[.int .u64 3] 32)).alloc (.cells #[.int .u64 0] 32) = W1) := hW1
  have HU : Hid (Yl W1 (.slice ao1 n1 c1) twoN) := (hU.later hB1).yl
  have HV : Hid (Yl W1 (.slice ao2 n2 c2) twoL) := (hV.later hB1).yl
  have hT1 := then_below hT hB1
  have HM : Hid (Blk W1 (w1.heap.size + 1) 32 #[.int .u64 3]) := hm
  have HL : Hid (Blk W1 (w1.heap.size + 1 + 1) 32 #[.int .u64 0]) := hl
  clear hU hV hW1 hm hl hT
  go_wp2_with fail
  rw [HW1.out]
  refine (P1.out _ _ _ _ _ HU.out HV.out HM.out HL.out).mono ?_
  rintro e w2 ⟨ao3, n3, c3, ao4, n4, c4, rfl, hB2⟩
  obtain ⟨W2, hW2, hBW2, hr2, hm2, hl2⟩ := three_boxes w2 (K5 0 0 0 (.slice ao3 n3 c3) (.slice ao4 n4 c4)) #[.int .u64 4] #[.int .u64 0] 26 32 32
  have HW2 : Hid (((w2.alloc (.cells (K5 0 0 0 (.slice ao3 n3 c3) (.slice ao4 n4 c4)) 26)).alloc (.cells #[.int .u64 4] 32)).alloc (.cells #[.int .u64 0] 32) = W2) := hW2
  have hX2 := then_below hB2 hBW2
  obtain ⟨p0, p1, p2, p3, p4, hz⟩ := hy.yard hX2
  have HM2 : Hid (Blk W2 (w2.heap.size + 1) 32 #[.int .u64 4]) := hm2
  have HL2 : Hid (Blk W2 (w2.heap.size + 1 + 1) 32 #[.int .u64 0]) := hl2
  have HU2 : Hid (Yl W2 (.slice ao1 n1 c1) twoN) := HU.out.later hX2
  have HV2 : Hid (Yl W2 (.slice ao2 n2 c2) twoL) := HV.out.later hX2
  have hy2 : w2.cell? ⟨w1.heap.size, 0, none⟩ = some (.int .i64 2) ∧ w2.cell? ⟨w1.heap.size, 1, none⟩ = some (.int .i64 1) ∧ w2.cell? ⟨w1.heap.size, 2, none⟩ = some (.int .i64 1) ∧ w2.cell? ⟨w1.heap.size, 3, none⟩ = some (.slice ao1 n1 c1) ∧ w2.cell? ⟨w1.heap.size, 4, none⟩ = some (.slice ao2 n2 c2) ∧ w1.heap.size < w2.heap.size := hy.yard hB2
  clear hW2 hm2 hl2 p0 p1 p2 p3 p4 hz
  obtain ⟨p0, p1, p2, p3, p4, hz⟩ := hy2
  go_wp2_with fail
  rw [HW2.out]
  refine (P2.out _ _ _ _ _ HU2.out HV2.out HM2.out HL2.out).mono ?_
  rintro e w3 ⟨ao5, n5, c5, ao6, n6, c6, rfl, hB3⟩
  clear p0 p1 p2 p3 p4 hz
  obtain ⟨W3, hW3, hBW3, hr3, hm3, hl3⟩ := three_boxes w3 (K5 0 0 0 (.slice ao5 n5 c5) (.slice ao6 n6 c6)) #[.int .u64 0] #[.int .u64 0] 26 32 32
  have HW3 : Hid (((w3.alloc (.cells (K5 0 0 0 (.slice ao5 n5 c5) (.slice ao6 n6 c6)) 26)).alloc (.cells #[.int .u64 0] 32)).alloc (.cells #[.int .u64 0] 32) = W3) := hW3
  have hX3 := then_below hX2 (then_below hB3 hBW3)
  obtain ⟨p0, p1, p2, p3, p4, hz⟩ := hy.yard hX3
  have HM3 : Hid (Blk W3 (w3.heap.size + 1) 32 #[.int .u64 0]) := hm3
  have HL3 : Hid (Blk W3 (w3.heap.size + 1 + 1) 32 #[.int .u64 0]) := hl3
  have HU3 : Hid (Yl W3 (.slice ao1 n1 c1) twoN) := HU.out.later hX3
  have HV3 : Hid (Yl W3 (.slice ao2 n2 c2) twoL) := HV.out.later hX3
  have hy3 : w3.cell? ⟨w1.heap.size, 0, none⟩ = some (.int .i64 2) ∧ w3.cell? ⟨w1.heap.size, 1, none⟩ = some (.int .i64 1) ∧ w3.cell? ⟨w1.heap.size, 2, none⟩ = some (.int .i64 1) ∧ w3.cell? ⟨w1.heap.size, 3, none⟩ = some (.slice ao1 n1 c1) ∧ w3.cell? ⟨w1.heap.size, 4, none⟩ = some (.slice ao2 n2 c2) ∧ w1.heap.size < w3.heap.size := hy.yard (then_below hX2 hB3)
  clear hW3 hm3 hl3 p0 p1 p2 p3 p4 hz
  obtain ⟨p0, p1, p2, p3, p4, hz⟩ := hy3
  go_wp2_with fail
  rw [HW3.out]
  refine (P3.out _ _ _ _ _ HU3.out HV3.out HM3.out HL3.out).mono ?_
  rintro e w4 ⟨ao7, n7, c7, ao8, n8, c8, rfl, hB4⟩
  clear p0 p1 p2 p3 p4 hz
  have hA := (Below.refl _ w4).alloc (Nat.le_refl _) (.cells (K5 0 0 0 (.slice ao7 n7 c7) (.slice ao8 n8 c8)) 26)
  go_wp2_with fail
  refine (HA.out _).mono ?_
  rintro e w5 ⟨rfl, hB5⟩
  go_wp2_with fail
  refine (HC.out _).mono ?_
  rintro e w6 ⟨rfl, hB6⟩
  go_wp2
  go_ret
  exact ⟨rfl, then_below hT1 (then_below hX3 (then_below hB4 (then_below hA (then_below hB5 hB6))))⟩

end Go.Proofs.Ytabhlmckncgdjaa

/-
  How the arguments of this seat's statements are opened: whole numbers, and rows of three of them.
-/
namespace Go.Proofs.Ytabhlmckncgdjaa
open Go.ChangeShapes Go.WideShapes Go.ChangeAt Go.RowKit

theorem own : ownKnob Try.prog.godebug = none := by kernel_rfl
theorem laidOut : laidOutB Try.prog = true := by kernel_rfl

theorem list3 {α : Type} (l : List α) (h : (⟨l⟩ : Array α).size = 3) : ∃ a b c, l = [a, b, c] := by
  match l, h with
  | [a, b, c], _ => exact ⟨a, b, c, rfl⟩

/-- A row of three whole numbers, by value. -/
theorem open_arr3 {P : Program} {w : World} {H : Type} {enc : TypeId × Value → H} {r : Reach} {b0 base : Nat} {spare : Nat → Bool} {held : Bool} {t e : TypeId} {v : Value} {d : DataW H} {p : List MemPlace}
    (ht : P.underlying t = some (.array 3 e)) (he : P.underlying e = some (.int .i64)) (hce : P.cellsOf e = 1) (hct : P.cellsOf t = 3)
    (hv : Value.okWide P w r b0 t v) (h : DataW.Trod enc P w base spare held t v d p) :
    ∃ a b c : Int, v = A3 a b c ∧ (Lit.int .i64 a).wf = true ∧ (Lit.int .i64 b).wf = true ∧ (Lit.int .i64 c).wf = true := by
  obtain ⟨cs, rfl, hsz, _⟩ : ∃ cs, v = .agg cs ∧ cs.size = P.cellsOf t ∧ Row.okWide P w r b0 t cs := by
    simpa [Value.okWide, ht] using hv
  rw [hct] at hsz
  obtain ⟨l⟩ := cs
  obtain ⟨c0, c1, c2, rfl⟩ := list3 l hsz
  obtain ⟨fuel, hf⟩ := h
  obtain ⟨y0, y1, y2, m, hx, hy0, hy1, hy2⟩ := trod_array3 ht hce hf
  obtain ⟨x0, e0, rfl, w0⟩ := DataW.trod_int he hy0
  obtain ⟨x1, e1, rfl, w1⟩ := DataW.trod_int he hy1
  obtain ⟨x2, e2, rfl, w2⟩ := DataW.trod_int he hy2
  simp at e0 e1 e2
  subst e0 e1 e2
  exact ⟨x0, x1, x2, rfl, w0, w1, w2⟩

theorem open_num {P : Program} {w : World} {H : Type} {enc : TypeId × Value → H} {r : Reach} {b0 base : Nat} {spare : Nat → Bool} {held : Bool} {t : TypeId} {k : IntKind} {v : Value} {d : DataW H} {p : List MemPlace}
    (ht : P.underlying t = some (.int k)) (hv : Value.okWide P w r b0 t v) (h : DataW.Trod enc P w base spare held t v d p) :
    ∃ a : Int, v = .int k a ∧ (Lit.int k a).wf = true := by
  obtain ⟨x, rfl, rfl, rfl, wx⟩ := open_int ht hv h
  exact ⟨x, rfl, wx⟩

theorem trod_lt' {H : Type} {enc : TypeId × Value → H} {P : Program} {W : World} {t : TypeId} {v : Value} {d : DataW H} {ps : List MemPlace} {sp : Nat → Bool} (h : DataW.Trod enc P W 0 sp true t v d ps) : ∀ x ∈ ps, x.block < W.heap.size := by
  obtain ⟨m, hm⟩ := h; exact DataW.trod_lt m _ _ _ hm

end Go.Proofs.Ytabhlmckncgdjaa
