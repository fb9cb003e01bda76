/-
  The statement GrowNames, walked. (Written by tools/gen/grow_names.py.)
-/
import Derived.Test.YtjmfdpilmljppaaLawGrow
import Derived.Test.YtjmfdpilmljppaaPart1
import Derived.Test.YtjmfdpilmljppaaRows
import Derived.ProofKit
import Derived.OpenShut
import Derived.ChangeOld
import Derived.Below
import Derived.Laws.IdiomArrays
namespace Go.Proofs.Ytjmfdpilmljppaa
open Go Go.RowKit Go.Shelf Go.Maps

attribute [local go_sem] Oper.semAt_some ext_const
attribute [local go_sem high] eq_box

set_option maxRecDepth 100000 in
theorem line_top : topV 3 1 1 [2] = 2 := by kernel_rfl
set_option maxRecDepth 100000 in
theorem line_whole : wholeV 3 1 1 (lnX 0 1) [2] = lnX 2 2 := by kernel_rfl
set_option maxRecDepth 100000 in
theorem line_werr : errW 3 1 1 (lnX 0 1) [2] = 0 := by kernel_rfl
set_option maxRecDepth 100000 in
theorem line_taken : errW 3 1 1 (lnX 1 1) [2] = 80 := by kernel_rfl
set_option maxRecDepth 100000 in
theorem line_many : errF 5 13 1 [0, 0] = 4 := by kernel_rfl
set_option maxRecDepth 100000 in
theorem line_bad : errF 3 1 1 [8] = 8 := by kernel_rfl
theorem wordG_two {x y : Nat} (h : x < 18446744073709551616) (h2 : y < 18446744073709551616) : ∀ z ∈ [x, y], z < 18446744073709551616 := by
  intro z hz
  simp at hz
  omega

set_option maxRecDepth 100000 in
set_option maxHeartbeats 8000000 in
theorem growNames_walk (w : World) : Calls Try.prog 3 #[] w fun e W' => e = .returned (.bool true) ∧ Below w.heap.size w W' := by
  have mixed : Try.prog.follows .mixedOrders = true := by kernel_rfl
  have HLa : Hid (∀ (w1 : World) (a : Nat), Blk w1 a 28 #[U 2] → Calls Try.prog 8 #[A3 3 1 1, .slice (some ⟨a, 0, none⟩) 1 1] w1 fun e W' => e = .returned (.tuple #[I 2, I 0]) ∧ Below w1.heap.size w1 W') := fun w1 a h => by
    have := glargest_calls 3 1 1 w1 (wdsG_one (by decide) h)
    rw [line_err, line_top] at this
    exact this
  have HG1 : Hid (∀ (w1 : World) (a : Nat), Blk w1 a 28 #[U 2] → Calls Try.prog 10 #[A3 3 1 1, B6 (lnX 0 1), .slice (some ⟨a, 0, none⟩) 1 1] w1 fun e W' => e = .returned (.tuple #[B6 (lnX 2 2), I 0]) ∧ Below w1.heap.size w1 W') := fun w1 a h => by
    have := ggrown_calls 3 1 1 (lnX 0 1) w1 (wdsG_one (by decide) h)
    rw [line_werr, line_whole] at this
    exact this
  have HG2 : Hid (∀ (w1 : World) (a : Nat), Blk w1 a 28 #[U 2] → Calls Try.prog 10 #[A3 3 1 1, B6 (lnX 1 1), .slice (some ⟨a, 0, none⟩) 1 1] w1 fun e W' => e = .returned (.tuple #[B6 zX, I 80]) ∧ Below w1.heap.size w1 W') := fun w1 a h => by
    have := ggrown_calls 3 1 1 (lnX 1 1) w1 (wdsG_one (by decide) h)
    rw [show wholeV 3 1 1 (lnX 1 1) [2] = zX by unfold wholeV; rw [line_taken]; rfl, line_taken] at this
    exact this
  have HF1 : Hid (∀ (w1 : World) (a : Nat), Blk w1 a 28 #[U 0, U 0] → Calls Try.prog 12 #[A3 5 13 1, .slice (some ⟨a, 0, none⟩) 2 2] w1 fun e W' => ∃ v, e = .returned (.tuple #[v, I 4]) ∧ Lx W' w1.heap.size v [] ∧ Below w1.heap.size w1 W') := fun w1 a h => by
    have := gfree_calls 5 13 1 w1 (wds_of_blk (ws := [0, 0]) (wordG_two (by decide) (by decide)) h 2)
    rw [line_many, show freeV 5 13 1 [0, 0] = [] by unfold freeV; rw [line_many]; rfl] at this
    exact this
  have HF2 : Hid (∀ (w1 : World) (a : Nat), Blk w1 a 28 #[U 8] → Calls Try.prog 12 #[A3 3 1 1, .slice (some ⟨a, 0, none⟩) 1 1] w1 fun e W' => ∃ v, e = .returned (.tuple #[v, I 8]) ∧ Lx W' w1.heap.size v [] ∧ Below w1.heap.size w1 W') := fun w1 a h => by
    have := gfree_calls 3 1 1 w1 (wdsG_one (by decide) h)
    rw [line_bad, show freeV 3 1 1 [8] = [] by unfold freeV; rw [line_bad]; rfl] at this
    exact this
  go_enter Try.func3, Try.ntmps3
  go_wp2_with fail
  refine (line_calls _).mono ?_
  rintro e w1 ⟨rfl, hT⟩
  have hA : Below w1.heap.size w1 (w1.alloc (.cells #[.int .u64 2] 28)) := (Below.refl _ w1).alloc (Nat.le_refl _) _
  have kA := Blk.new w1 28 #[.int .u64 2]
  go_wp2_with fail
  refine (HLa.out _ _ kA).mono ?_
  rintro e w2 ⟨rfl, hB⟩
  replace hT := then_below (then_below hT hA) hB
  clear hB hA kA
  go_wp2_with fail
  refine (line_calls _).mono ?_
  rintro e w3 ⟨rfl, hB⟩
  replace hT := then_below hT hB
  clear hB
  go_wp2_with fail
  refine (lineof_calls 0 1 _).mono ?_
  rintro e w4 ⟨rfl, hB⟩
  replace hT := then_below hT hB
  clear hB
  have hA : Below w4.heap.size w4 (w4.alloc (.cells #[.int .u64 2] 28)) := (Below.refl _ w4).alloc (Nat.le_refl _) _
  have kA := Blk.new w4 28 #[.int .u64 2]
  go_wp2_with fail
  refine (HG1.out _ _ kA).mono ?_
  rintro e w5 ⟨rfl, hB⟩
  replace hT := then_below (then_below hT hA) hB
  clear hB hA kA
  obtain ⟨w9, hw9⟩ : ∃ w9, w9 = w5.alloc (.cells (C6 (lnX 2 2)) 32) := ⟨_, rfl⟩
  have hB9 : Below w5.heap.size w5 w9 := by rw [hw9]; exact (Below.refl _ w5).alloc (Nat.le_refl _) _
  have kb : Blk w9 w5.heap.size 32 (C6 (lnX 2 2)) := by rw [hw9]; exact Blk.new _ _ _
  have HW9 : Hid (w5.alloc (.cells (C6 (lnX 2 2)) 32) = w9) := hw9.symm
  replace hT := then_below hT hB9
  clear hw9 hB9
  go_wp2_with fail
  rw [HW9.out]
  refine (line_calls _).mono ?_
  rintro e w10 ⟨rfl, hB⟩
  replace hT := then_below hT hB
  replace kb := kb.later hB
  clear hB HW9
  go_wp2_with fail
  refine (lineof_calls 1 1 _).mono ?_
  rintro e w11 ⟨rfl, hB⟩
  replace hT := then_below hT hB
  replace kb := kb.later hB
  clear hB
  have hA : Below w11.heap.size w11 (w11.alloc (.cells #[.int .u64 2] 28)) := (Below.refl _ w11).alloc (Nat.le_refl _) _
  have kA := Blk.new w11 28 #[.int .u64 2]
  go_wp2_with fail
  refine (HG2.out _ _ kA).mono ?_
  rintro e w12 ⟨rfl, hB⟩
  replace hT := then_below (then_below hT hA) hB
  replace kb := (kb.later hA).later hB
  clear hB hA kA
  have hX : Below w12.heap.size w12 (w12.alloc (.cells (C6 zX) 32)) := (Below.refl _ w12).alloc (Nat.le_refl _) _
  have hA : Below w12.heap.size w12 ((w12.alloc (.cells (C6 zX) 32)).alloc (.cells #[.int .u64 0, .int .u64 0] 28)) := hX.alloc (by simp) _
  have kA : Blk ((w12.alloc (.cells (C6 zX) 32)).alloc (.cells #[.int .u64 0, .int .u64 0] 28)) (w12.heap.size + 1) 28 #[.int .u64 0, .int .u64 0] := by
    have := Blk.new (w12.alloc (.cells (C6 zX) 32)) 28 #[.int .u64 0, .int .u64 0]
    simpa using this
  go_wp2_with fail
  refine (HF1.out _ _ kA).mono ?_
  rintro e w13 ⟨v, rfl, hL, hB⟩
  obtain ⟨ao, cap, rfl, _⟩ := hL.form
  replace hT := then_below (then_below hT hA) hB
  replace kb := (kb.later hA).later hB
  clear hB hA kA hX hL
  go_wp2_with fail
  refine (line_calls _).mono ?_
  rintro e w14 ⟨rfl, hB⟩
  replace hT := then_below hT hB
  replace kb := kb.later hB
  clear hB
  have hA : Below w14.heap.size w14 (w14.alloc (.cells #[.int .u64 8] 28)) := (Below.refl _ w14).alloc (Nat.le_refl _) _
  have kA := Blk.new w14 28 #[.int .u64 8]
  go_wp2_with fail
  refine (HF2.out _ _ kA).mono ?_
  rintro e w15 ⟨v2, rfl, hL, hB⟩
  replace hT := then_below (then_below hT hA) hB
  replace kb := (kb.later hA).later hB
  clear hB hA kA
  obtain ⟨ao2, cap2, rfl, _⟩ := hL.form
  clear hL
  have q0 := Ext.cell kb 0
  have q1 := Ext.cell kb 1
  have q2 := Ext.cell kb 2
  have q3 := Ext.cell kb 3
  have q4 := Ext.cell kb 4
  have q5 := Ext.cell kb 5
  simp at q0 q1 q2 q3 q4 q5
  have HT : Hid (Below w.heap.size w w15) := hT
  have hsb : sameBx ⟨2, 0, 0, 2, 1, 1⟩ ⟨2, 0, 0, 2, 1, 1⟩ = true := rfl
  clear hT kb
  go_wp2_with fail
  refine wp_region_look mixed (by kernel_rfl) ?_
  repeat (go_big_quiet_step (first | (go_at_call 13; exact calls_ext (alive13_calls _)) | (go_at_call 11; exact calls_ext (lineof_calls 2 2 _))))
  refine wpQuiet_nil ?_
  intro X
  have hT2 := HT.out.trans (X.le.mono HT.out.size)
  clear q0 q1 q2 q3 q4 q5
  generalize X.wd = wz at *
  clear X
  try simp only [hsb]
  go_wp2
  go_ret
  exact ⟨by first | rfl | simp, hT2⟩

end Go.Proofs.Ytjmfdpilmljppaa

/-
  How the arguments of this seat's statements are opened: whole numbers, and rows of three of them.
-/
namespace Go.Proofs.Ytjmfdpilmljppaa
open Go.ChangeShapes Go.WideShapes Go.ChangeAt Go.RowKit

theorem own : ownKnob Try.prog.godebug = none := by kernel_rfl
theorem laidOut : laidOutB Try.prog = true := by kernel_rfl

theorem list3 {α : Type} (l : List α) (h : (⟨l⟩ : Array α).size = 3) : ∃ a b c, l = [a, b, c] := by
  match l, h with
  | [a, b, c], _ => exact ⟨a, b, c, rfl⟩

/-- A row of three whole numbers, by value. -/
theorem open_arr3 {P : Program} {w : World} {H : Type} {enc : TypeId × Value → H} {r : Reach} {b0 base : Nat} {spare : Nat → Bool} {held : Bool} {t e : TypeId} {v : Value} {d : DataW H} {p : List MemPlace}
    (ht : P.underlying t = some (.array 3 e)) (he : P.underlying e = some (.int .i64)) (hce : P.cellsOf e = 1) (hct : P.cellsOf t = 3)
    (hv : Value.okWide P w r b0 t v) (h : DataW.Trod enc P w base spare held t v d p) :
    ∃ a b c : Int, v = A3 a b c ∧ (Lit.int .i64 a).wf = true ∧ (Lit.int .i64 b).wf = true ∧ (Lit.int .i64 c).wf = true := by
  obtain ⟨cs, rfl, hsz, _⟩ : ∃ cs, v = .agg cs ∧ cs.size = P.cellsOf t ∧ Row.okWide P w r b0 t cs := by
    simpa [Value.okWide, ht] using hv
  rw [hct] at hsz
  obtain ⟨l⟩ := cs
  obtain ⟨c0, c1, c2, rfl⟩ := list3 l hsz
  obtain ⟨fuel, hf⟩ := h
  obtain ⟨y0, y1, y2, m, hx, hy0, hy1, hy2⟩ := trod_array3 ht hce hf
  obtain ⟨x0, e0, rfl, w0⟩ := DataW.trod_int he hy0
  obtain ⟨x1, e1, rfl, w1⟩ := DataW.trod_int he hy1
  obtain ⟨x2, e2, rfl, w2⟩ := DataW.trod_int he hy2
  simp at e0 e1 e2
  subst e0 e1 e2
  exact ⟨x0, x1, x2, rfl, w0, w1, w2⟩

theorem open_num {P : Program} {w : World} {H : Type} {enc : TypeId × Value → H} {r : Reach} {b0 base : Nat} {spare : Nat → Bool} {held : Bool} {t : TypeId} {k : IntKind} {v : Value} {d : DataW H} {p : List MemPlace}
    (ht : P.underlying t = some (.int k)) (hv : Value.okWide P w r b0 t v) (h : DataW.Trod enc P w base spare held t v d p) :
    ∃ a : Int, v = .int k a ∧ (Lit.int k a).wf = true := by
  obtain ⟨x, rfl, rfl, rfl, wx⟩ := open_int ht hv h
  exact ⟨x, rfl, wx⟩

theorem trod_lt' {H : Type} {enc : TypeId × Value → H} {P : Program} {W : World} {t : TypeId} {v : Value} {d : DataW H} {ps : List MemPlace} {sp : Nat → Bool} (h : DataW.Trod enc P W 0 sp true t v d ps) : ∀ x ∈ ps, x.block < W.heap.size := by
  obtain ⟨m, hm⟩ := h; exact DataW.trod_lt m _ _ _ hm

end Go.Proofs.Ytjmfdpilmljppaa
