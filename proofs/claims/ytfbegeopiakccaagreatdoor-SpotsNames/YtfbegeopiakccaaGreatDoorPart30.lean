/-
  Small functions of layer 12's statements: the chapter's dimensions, shapes, how many; the chapter's first examples.
-/
import Derived.Test.YtfbegeopiakccaaGreatDoorSpotsAll
import Derived.Test.YtfbegeopiakccaaGreatDoorPart8
import Derived.Test.YtfbegeopiakccaaGreatDoorPart5
import Derived.Test.YtfbegeopiakccaaGreatDoorPart1
import Derived.Test.YtfbegeopiakccaaGreatDoorRows
import Derived.ProofKit
import Derived.OpenShut
import Derived.ChangeOld
import Derived.Below
import Derived.Laws.IdiomArrays
import Derived.Test.YtfbegeopiakccaaGreatDoorPart16
import Derived.ChangeSame
import Derived.ChangeArms
import Derived.Deep.Strs
import Derived.Test.YtfbegeopiakccaaGreatDoorPart26
import Derived.LaidMore
import Derived.Stop.Joined
import Derived.Lib.LaidTab
import Derived.SevenTiedAt
namespace Go.Proofs.YtfbegeopiakccaaGreatDoor
open Go Go.RowKit Go.Shelf Go.Maps

attribute [local go_sem] Oper.semAt_some ext_const ixI0 ixI1 ixI2

set_option maxRecDepth 100000 in
theorem some12_calls (w : World) : Calls Tryz.prog 9 #[] w fun e W' => e = .returned (A3 3 2 1) ∧ Below w.heap.size w W' := by
  have hB : Below w.heap.size w (w.alloc (.cells #[I 3, I 2, I 1] 27)) := (Below.refl _ w).alloc (Nat.le_refl _) _
  go_enter Tryz.func9, Tryz.ntmps9
  go_wp2
  exact bodyPost_ret (v := A3 3 2 1) (by simp [results, Tryz.f9, go_sem]) rfl ⟨rfl, hB⟩
set_option maxRecDepth 100000 in
theorem shaped12_calls (a b c : Int) (t : Bool) (w : World) : Calls Tryz.prog 10 #[I a, I b, I c, .bool t] w fun e W' => e = .returned (V7 a b c false false false t) ∧ Below w.heap.size w W' := by
  have hB : Below w.heap.size w (w.alloc (.cells (cells7 a b c false false false t) 31)) := (Below.refl _ w).alloc (Nat.le_refl _) _
  go_enter Tryz.func10, Tryz.ntmps10
  go_wp2
  exact bodyPost_ret (v := V7 a b c false false false t) (by simp [results, Tryz.f10, go_sem]) rfl ⟨rfl, hB⟩

theorem may321 : mayD 3 2 1 := ⟨⟨by decide, by decide⟩, ⟨by decide, by decide⟩, by decide, by decide⟩
set_option maxRecDepth 100000 in
set_option maxHeartbeats 1000000 in
theorem many12_calls {x y z : Int} {t : Bool} {n : Int} (w : World) (hO : OrdOk w) (hm : mayD x y z) (hn : (placesL 3 2 1 (x, y, z, false, false, false, t)).length = n) :
    Calls Tryz.prog 12 #[V7 x y z false false false t, I n] w fun e W' => e = .returned (.bool true) ∧ Below w.heap.size w W' := by
  have mixed : Tryz.prog.follows .mixedOrders = true := by kernel_rfl
  have HM := fun (w1 : World) (h1 : OrdOk w1) => smany_yes (u := (x, y, z, false, false, false, t)) w1 h1 may321 (mayT_D.2 hm)
  rw [hn] at HM
  have hB : Below w.heap.size w (w.alloc (.cells (cells7 x y z false false false t) 31)) := (Below.refl _ w).alloc (Nat.le_refl _) _
  have HOX : ∀ X : Ext (w.alloc (.cells (cells7 x y z false false false t) 31)), OrdOk X.wd := fun X => (hO.later hB).later X.le
  have kk1 := Blk.new w 31 (cells7 x y z false false false t)
  have x0 := Ext.cell kk1 0
  have x1 := Ext.cell kk1 1
  have x2 := Ext.cell kk1 2
  have x3 := Ext.cell kk1 3
  have x4 := Ext.cell kk1 4
  have x5 := Ext.cell kk1 5
  have x6 := Ext.cell kk1 6
  simp [cells7] at x0 x1 x2 x3 x4 x5 x6
  have HM : Hid (∀ (w1 : World), OrdOk w1 → Calls Tryz.prog 17 #[A3 3 2 1, V7 x y z false false false t] w1 fun e W' => e = .returned (.tuple #[I n, I 0]) ∧ Below w1.heap.size w1 W') := HM
  clear hn hm kk1 hO
  go_enter Tryz.func12, Tryz.ntmps12
  go_wp2_with fail
  refine wp_region_look mixed (by kernel_rfl) ?_
  repeat (go_big_quiet_step (first | (go_at_call 9; exact calls_ext (some12_calls _)) | (go_at_call 17; exact calls_ext (HM.out _ (HOX _)))))
  refine wpQuiet_nil ?_
  intro X
  go_wp2
  go_ret
  exact ⟨rfl, then_below hB X.le⟩

set_option maxRecDepth 100000 in
theorem len111 : ((placesL 3 2 1 (1, 1, 1, false, false, false, false)).length : Int) = 6 := by kernel_rfl
set_option maxRecDepth 100000 in
theorem len311 : ((placesL 3 2 1 (3, 1, 1, false, false, false, false)).length : Int) = 2 := by kernel_rfl
set_option maxRecDepth 100000 in
theorem len211 : ((placesL 3 2 1 (2, 1, 1, false, false, false, false)).length : Int) = 6 := by kernel_rfl
set_option maxRecDepth 100000 in
theorem len211t : ((placesL 3 2 1 (2, 1, 1, false, false, false, true)).length : Int) = 9 := by kernel_rfl
set_option maxRecDepth 100000 in
theorem len411 : ((placesL 3 2 1 (4, 1, 1, false, false, false, false)).length : Int) = 0 := by kernel_rfl
theorem mayx (a : Int) (h : 1 ≤ a ∧ a ≤ 16) : mayD a 1 1 := ⟨h, ⟨by decide, by decide⟩, by decide, by decide⟩

set_option maxRecDepth 100000 in
set_option maxHeartbeats 2000000 in
theorem alive12_calls (w : World) (hO : OrdOk w) : Calls Tryz.prog 11 #[] w fun e W' => e = .returned (.bool true) ∧ Below w.heap.size w W' := by
  have HO : Hid (OrdOk w) := hO
  have HS : Hid (∀ (a : Int) (t : Bool) (w1 : World), Calls Tryz.prog 10 #[I a, I 1, I 1, .bool t] w1 fun e W' => e = .returned (V7 a 1 1 false false false t) ∧ Below w1.heap.size w1 W') := fun a t w1 => shaped12_calls a 1 1 t w1
  have M1 : Hid (∀ w1, OrdOk w1 → Calls Tryz.prog 12 #[V7 1 1 1 false false false false, I 6] w1 fun e W' => e = .returned (.bool true) ∧ Below w1.heap.size w1 W') := fun w1 h => many12_calls w1 h (mayx 1 (by decide)) len111
  have M2 : Hid (∀ w1, OrdOk w1 → Calls Tryz.prog 12 #[V7 3 1 1 false false false false, I 2] w1 fun e W' => e = .returned (.bool true) ∧ Below w1.heap.size w1 W') := fun w1 h => many12_calls w1 h (mayx 3 (by decide)) len311
  have M3 : Hid (∀ w1, OrdOk w1 → Calls Tryz.prog 12 #[V7 2 1 1 false false false false, I 6] w1 fun e W' => e = .returned (.bool true) ∧ Below w1.heap.size w1 W') := fun w1 h => many12_calls w1 h (mayx 2 (by decide)) len211
  have M4 : Hid (∀ w1, OrdOk w1 → Calls Tryz.prog 12 #[V7 2 1 1 false false false true, I 9] w1 fun e W' => e = .returned (.bool true) ∧ Below w1.heap.size w1 W') := fun w1 h => many12_calls w1 h (mayx 2 (by decide)) len211t
  clear hO
  go_enter Tryz.func11, Tryz.ntmps11
  go_wp2_with fail
  refine (HS.out 1 false _).mono ?_
  rintro e w1 ⟨rfl, hB⟩
  have hT := hB
  clear hB
  go_wp2_with fail
  refine (M1.out _ (HO.out.later hT)).mono ?_
  rintro e w2 ⟨rfl, hB⟩
  replace hT := then_below hT hB
  clear hB
  go_wp2_with fail
  refine (HS.out 3 false _).mono ?_
  rintro e w3 ⟨rfl, hB⟩
  replace hT := then_below hT hB
  clear hB
  go_wp2_with fail
  refine (M2.out _ (HO.out.later hT)).mono ?_
  rintro e w4 ⟨rfl, hB⟩
  replace hT := then_below hT hB
  clear hB
  go_wp2_with fail
  refine (HS.out 2 false _).mono ?_
  rintro e w5 ⟨rfl, hB⟩
  replace hT := then_below hT hB
  clear hB
  go_wp2_with fail
  refine (M3.out _ (HO.out.later hT)).mono ?_
  rintro e w6 ⟨rfl, hB⟩
  replace hT := then_below hT hB
  clear hB
  go_wp2_with fail
  refine (HS.out 2 true _).mono ?_
  rintro e w7 ⟨rfl, hB⟩
  replace hT := then_below hT hB
  clear hB
  go_wp2_with fail
  refine (M4.out _ (HO.out.later hT)).mono ?_
  rintro e w8 ⟨rfl, hB⟩
  replace hT := then_below hT hB
  clear hB
  go_wp2
  go_ret
  exact ⟨rfl, hT⟩

end Go.Proofs.YtfbegeopiakccaaGreatDoor

/-
  The document's answers of one set (tidehallref03.List, Has, Many); whether two lists are the same (tidehallref02.Ints).
-/
namespace Go.Proofs.YtfbegeopiakccaaGreatDoor
open Go Go.RowKit Go.Shelf

attribute [local go_sem] Oper.semAt_some ext_const

end Go.Proofs.YtfbegeopiakccaaGreatDoor

/-
  The chapter's first examples (the statements' 'alive').
-/
namespace Go.Proofs.YtfbegeopiakccaaGreatDoor
open Go Go.RowKit Go.Shelf

theorem alive_err : errAll 70 [[8, 32]] = 0 := by decide +kernel
theorem alive_list : listR 70 [8, 32] = [3, 69] := by decide +kernel
theorem alive_of : ofErr 70 [3, 69, 3] = 0 := by decide +kernel
theorem alive_ok : ofOk 70 [3, 69, 3] = true := by decide +kernel
theorem alive_bits : ∀ k, k < 128 → hasW [8, 32] k = inL [3, 69, 3] k := by decide +kernel
theorem alive_set {ws : List Nat} (h : OfIs 70 [3, 69, 3] ws) : ws = [8, 32] := by
  refine (h.yes alive_ok).ext ⟨rfl, fun x hx => ?_, fun k => ?_⟩
  · simp at hx
    rcases hx with rfl | rfl <;> decide
  · by_cases hk : k < 128
    · exact alive_bits k hk
    · rw [hasW_past (by simp; omega)]
      unfold inL
      symm
      rw [Bool.eq_false_iff]
      intro hc
      simp at hc
      omega

theorem its_of_blk {W : World} {g : Nat} {xs : List Int} {t : TypeId} (h : Blk W g t (xs.map I).toArray) (cap : Nat) : Its W (.slice (some ⟨g, 0, none⟩) xs.length cap) xs := by
  have := Sl.blk h cap
  rw [List.length_map] at this
  exact this
theorem wds_of_blk {W : World} {g : Nat} {ws : List Nat} {t : TypeId} (hw : ∀ x ∈ ws, x < 18446744073709551616) (h : Blk W g t (ws.map U).toArray) (cap : Nat) : Wds W (.slice (some ⟨g, 0, none⟩) ws.length cap) ws := by
  have := Sl.blk h cap
  rw [List.length_map] at this
  exact ⟨hw, this⟩

end Go.Proofs.YtfbegeopiakccaaGreatDoor

/-
  The statement SpotsNames, walked.
-/
namespace Go.Proofs.YtfbegeopiakccaaGreatDoor
open Go Go.RowKit Go.Shelf Go.Maps

attribute [local go_sem] Oper.semAt_some ext_const ixI0 ixI1 ixI2 eq_ints_at

theorem word_one {x : Nat} (h : x < 18446744073709551616) : ∀ y ∈ [x], y < 18446744073709551616 := by
  intro y hy
  simp at hy
  omega
theorem wds_one {W : World} {g x : Nat} (h : x < 18446744073709551616) (hb : Blk W g 33 #[U x]) : Wds W (.slice (some ⟨g, 0, none⟩) 1 1) [x] := wds_of_blk (ws := [x]) (word_one h) hb 1

set_option maxRecDepth 100000 in
theorem clear321 : clearT 3 2 1 (turnsT (2, 1, 1, false, false, false, false)) [17] [0] = [(⟨1, 0, 0, 2, 1, 1⟩, false, false, false), (⟨2, 1, 0, 2, 1, 1⟩, false, false, false)] := by kernel_rfl
set_option maxRecDepth 100000 in
theorem bad321 : mayW (3 * 2 * 1 : Int).toNat [64] [0] = false := by kernel_rfl
set_option maxRecDepth 100000 in
theorem ok321 : mayW (3 * 2 * 1 : Int).toNat [17] [0] = true := by kernel_rfl

set_option maxRecDepth 100000 in
set_option maxHeartbeats 4000000 in
theorem spotsNames_walk (w : World) (hO : OrdOk w) : Calls Tryz.prog 3 #[] w fun e W' => e = .returned (.bool true) ∧ Below w.heap.size w W' := by
  have HO : Hid (OrdOk w) := hO
  have HA : Hid (∀ w1, OrdOk w1 → Calls Tryz.prog 11 #[] w1 fun e W' => e = .returned (.bool true) ∧ Below w1.heap.size w1 W') := fun w1 h => alive12_calls w1 h
  have HM : Hid (∀ w1, OrdOk w1 → Calls Tryz.prog 12 #[V7 4 1 1 false false false false, I 0] w1 fun e W' => e = .returned (.bool true) ∧ Below w1.heap.size w1 W') := fun w1 h => many12_calls w1 h (mayx 4 (by decide)) len411
  have HY : Hid (∀ (w1 : World) (a b : Nat), OrdOk w1 → Blk w1 a 33 #[U 17] → Blk w1 b 33 #[U 0] → Calls Tryz.prog 8 #[A3 3 2 1, V7 2 1 1 false false false false, .slice (some ⟨a, 0, none⟩) 1 1, .slice (some ⟨b, 0, none⟩) 1 1] w1 fun e W' => ∃ v, e = .returned (.tuple #[v, I 0]) ∧ Lp W' w1.heap.size v [(⟨1, 0, 0, 2, 1, 1⟩, false, false, false), (⟨2, 1, 0, 2, 1, 1⟩, false, false, false)] ∧ Below w1.heap.size w1 W') := fun w1 a b h1 h2 h3 => by
    have := sall_yes (u := (2, 1, 1, false, false, false, false)) w1 h1 may321 (mayT_D.2 (mayx 2 (by decide))) (wds_one (by decide) h2) (wds_one (by decide) h3) ok321
    rw [clear321] at this
    exact this
  have HN : Hid (∀ (w1 : World) (a b : Nat), Blk w1 a 33 #[U 64] → Blk w1 b 33 #[U 0] → Calls Tryz.prog 8 #[A3 3 2 1, V7 2 1 1 false false false false, .slice (some ⟨a, 0, none⟩) 1 1, .slice (some ⟨b, 0, none⟩) 1 1] w1 fun e W' => e = .returned (.tuple #[.slice none 0 0, I 8]) ∧ Below w1.heap.size w1 W') := fun w1 a b h2 h3 =>
    sall_bad (u := (2, 1, 1, false, false, false, false)) w1 may321 (mayT_D.2 (mayx 2 (by decide))) (wds_one (by decide) h2) (wds_one (by decide) h3) bad321
  clear hO
  go_enter Tryz.func3, Tryz.ntmps3
  go_wp2_with fail
  refine (some12_calls _).mono ?_
  rintro e w1 ⟨rfl, hT⟩
  go_wp2_with fail
  refine (shaped12_calls 2 1 1 false _).mono ?_
  rintro e w2 ⟨rfl, hB⟩
  replace hT := then_below hT hB
  clear hB
  obtain ⟨W1, hW1, hB1, k0, k1⟩ := two_start w2 #[.int .u64 17] #[.int .u64 0] 33 33
  have HW1 : Hid ((w2.alloc (.cells #[.int .u64 17] 33)).alloc (.cells #[.int .u64 0] 33) = W1) := hW1
  clear hW1
  go_wp2_with fail
  rw [HW1.out]
  have hT1 := then_below hT hB1
  refine (HY.out _ _ _ (HO.out.later hT1) k0 k1).mono ?_
  rintro e w3 ⟨v, rfl, hL, hB⟩
  obtain ⟨ao, cap, rfl, _⟩ := hL.view
  replace hT := then_below hT1 hB
  clear hB hB1 k0 k1 hT1 HW1
  go_wp2_with fail
  refine (some12_calls _).mono ?_
  rintro e w4 ⟨rfl, hB⟩
  replace hT := then_below hT hB
  replace hL := hL.later hB
  clear hB
  go_wp2_with fail
  refine (shaped12_calls 2 1 1 false _).mono ?_
  rintro e w5 ⟨rfl, hB⟩
  replace hT := then_below hT hB
  replace hL := hL.later hB
  clear hB
  obtain ⟨W2, hW2, hB2, k0, k1⟩ := two_start w5 #[.int .u64 64] #[.int .u64 0] 33 33
  have HW2 : Hid ((w5.alloc (.cells #[.int .u64 64] 33)).alloc (.cells #[.int .u64 0] 33) = W2) := hW2
  clear hW2
  go_wp2_with fail
  rw [HW2.out]
  refine (HN.out _ _ _ k0 k1).mono ?_
  rintro e w6 ⟨rfl, hB⟩
  replace hT := then_below (then_below hT hB2) hB
  replace hL := (hL.later hB2).later hB
  clear hB hB2 k0 k1 HW2
  go_wp2_with fail
  refine (HA.out _ (HO.out.later hT)).mono ?_
  rintro e w7 ⟨rfl, hB⟩
  replace hT := then_below hT hB
  replace hL := hL.later hB
  clear hB
  obtain ⟨g, b, p, q, r, rfl, he, hat⟩ := hL.at (k := 0) (by decide)
  obtain ⟨g', b', p', q', r', hg', he', hat'⟩ := hL.at (k := 1) (by decide)
  have eg : g' = g := by simpa using hg'.symm
  subst eg
  simp only [List.getD_cons_zero, List.getD_cons_succ, Prod.mk.injEq] at he he'
  obtain ⟨rfl, rfl, rfl, rfl⟩ := he
  obtain ⟨rfl, rfl, rfl, rfl⟩ := he'
  obtain ⟨c0, c1, c2, _⟩ := hat.cells
  obtain ⟨d0, d1, d2, _⟩ := hat'.cells
  have hz := hat.lt
  simp at c0 c1 c2 d0 d1 d2
  have e1 : eqN 1 0 0 1 0 0 = true := rfl
  have e2 : eqN 2 1 0 2 1 0 = true := rfl
  clear hat hat' hg' hL
  go_wp2_with fail
  refine (shaped12_calls 4 1 1 false _).mono ?_
  rintro e w8 ⟨rfl, hB⟩
  replace hT := then_below hT hB
  clear hB
  go_wp2_with fail
  refine (HM.out _ (HO.out.later hT)).mono ?_
  rintro e w9 ⟨rfl, hB⟩
  replace hT := then_below hT hB
  clear hB
  go_wp2
  go_ret
  exact ⟨rfl, hT⟩

end Go.Proofs.YtfbegeopiakccaaGreatDoor

/-
  How the arguments of this seat's statements are opened: whole numbers, and rows of three of them.
-/
namespace Go.Proofs.YtfbegeopiakccaaGreatDoor
open Go.ChangeShapes Go.WideShapes Go.ChangeAt Go.RowKit

theorem own : ownKnob Tryz.prog.godebug = none := by kernel_rfl
theorem laidOut : laidOutB Tryz.prog = true := by kernel_rfl

theorem list3 {α : Type} (l : List α) (h : (⟨l⟩ : Array α).size = 3) : ∃ a b c, l = [a, b, c] := by
  match l, h with
  | [a, b, c], _ => exact ⟨a, b, c, rfl⟩

/-- A row of three whole numbers, by value. -/
theorem open_arr3 {P : Program} {w : World} {H : Type} {enc : TypeId × Value → H} {r : Reach} {b0 base : Nat} {spare : Nat → Bool} {held : Bool} {t e : TypeId} {v : Value} {d : DataW H} {p : List MemPlace}
    (ht : P.underlying t = some (.array 3 e)) (he : P.underlying e = some (.int .i64)) (hce : P.cellsOf e = 1) (hct : P.cellsOf t = 3)
    (hv : Value.okWide P w r b0 t v) (h : DataW.Trod enc P w base spare held t v d p) :
    ∃ a b c : Int, v = A3 a b c ∧ (Lit.int .i64 a).wf = true ∧ (Lit.int .i64 b).wf = true ∧ (Lit.int .i64 c).wf = true := by
  obtain ⟨cs, rfl, hsz, _⟩ : ∃ cs, v = .agg cs ∧ cs.size = P.cellsOf t ∧ Row.okWide P w r b0 t cs := by
    simpa [Value.okWide, ht] using hv
  rw [hct] at hsz
  obtain ⟨l⟩ := cs
  obtain ⟨c0, c1, c2, rfl⟩ := list3 l hsz
  obtain ⟨fuel, hf⟩ := h
  obtain ⟨y0, y1, y2, m, hx, hy0, hy1, hy2⟩ := trod_array3 ht hce hf
  obtain ⟨x0, e0, rfl, w0⟩ := DataW.trod_int he hy0
  obtain ⟨x1, e1, rfl, w1⟩ := DataW.trod_int he hy1
  obtain ⟨x2, e2, rfl, w2⟩ := DataW.trod_int he hy2
  simp at e0 e1 e2
  subst e0 e1 e2
  exact ⟨x0, x1, x2, rfl, w0, w1, w2⟩

theorem open_num {P : Program} {w : World} {H : Type} {enc : TypeId × Value → H} {r : Reach} {b0 base : Nat} {spare : Nat → Bool} {held : Bool} {t : TypeId} {k : IntKind} {v : Value} {d : DataW H} {p : List MemPlace}
    (ht : P.underlying t = some (.int k)) (hv : Value.okWide P w r b0 t v) (h : DataW.Trod enc P w base spare held t v d p) :
    ∃ a : Int, v = .int k a ∧ (Lit.int k a).wf = true := by
  obtain ⟨x, rfl, rfl, rfl, wx⟩ := open_int ht hv h
  exact ⟨x, rfl, wx⟩

theorem trod_lt' {H : Type} {enc : TypeId × Value → H} {P : Program} {W : World} {t : TypeId} {v : Value} {d : DataW H} {ps : List MemPlace} {sp : Nat → Bool} (h : DataW.Trod enc P W 0 sp true t v d ps) : ∀ x ∈ ps, x.block < W.heap.size := by
  obtain ⟨m, hm⟩ := h; exact DataW.trod_lt m _ _ _ hm

end Go.Proofs.YtfbegeopiakccaaGreatDoor

/-
  How what is asked for, and three tori, among a statement's arguments are opened.
-/
namespace Go.Proofs.YtfbegeopiakccaaGreatDoor
open Go.ChangeShapes Go.WideShapes Go.ChangeAt Go.RowKit

theorem list7 {α : Type} (l : List α) (h : (⟨l⟩ : Array α).size = 7) : ∃ a b c d e f g, l = [a, b, c, d, e, f, g] := by
  match l, h with
  | [a, b, c, d, e, f, g], _ => exact ⟨a, b, c, d, e, f, g, rfl⟩

set_option maxRecDepth 100000 in
theorem open_bool3 {w : World} {H : Type} {enc : TypeId × Value → H} {r : Reach} {b0 base : Nat} {spare : Nat → Bool} {held : Bool} {v : Value} {d : DataW H} {p : List MemPlace}
    (hv : Value.okWide Tryz.prog w r b0 29 v) (h : DataW.Trod enc Tryz.prog w base spare held 29 v d p) : ∃ f g k : Bool, v = B3 f g k := by
  obtain ⟨cs, rfl, hsz, _⟩ : ∃ cs, v = .agg cs ∧ cs.size = Tryz.prog.cellsOf 29 ∧ Row.okWide Tryz.prog w r b0 29 cs := by
    simpa [Value.okWide, Tryz.underlying29] using hv
  have hct : Tryz.prog.cellsOf 29 = 3 := by kernel_rfl
  have hce : Tryz.prog.cellsOf 4 = 1 := by kernel_rfl
  rw [hct] at hsz
  obtain ⟨l⟩ := cs
  obtain ⟨c0, c1, c2, rfl⟩ := list3 l hsz
  obtain ⟨fuel, hf⟩ := h
  obtain ⟨y0, y1, y2, m, hx, hy0, hy1, hy2⟩ := trod_array3 Tryz.underlying29 hce hf
  obtain ⟨x0, e0, rfl⟩ := DataW.trod_bool Tryz.underlying4 hy0
  obtain ⟨x1, e1, rfl⟩ := DataW.trod_bool Tryz.underlying4 hy1
  obtain ⟨x2, e2, rfl⟩ := DataW.trod_bool Tryz.underlying4 hy2
  simp at e0 e1 e2
  subst e0 e1 e2
  exact ⟨x0, x1, x2, rfl⟩

set_option maxRecDepth 100000 in
theorem open_wants {w : World} {H : Type} {enc : TypeId × Value → H} {r : Reach} {b0 base : Nat} {spare : Nat → Bool} {held : Bool} {v : Value} {d : DataW H} {p : List MemPlace}
    (hv : Value.okWide Tryz.prog w r b0 31 v) (h : DataW.Trod enc Tryz.prog w base spare held 31 v d p) :
    ∃ (x y z : Int) (f g k t : Bool), v = V7 x y z f g k t ∧ (Lit.int .i64 x).wf = true ∧ (Lit.int .i64 y).wf = true ∧ (Lit.int .i64 z).wf = true := by
  obtain ⟨f0, f1, f2, hu, t0, o0, t1, o1, t2, o2⟩ : ∃ f0 f1 f2, Tryz.prog.underlying 31 = some (.struct #[f0, f1, f2]) ∧ f0.type = 26 ∧ f0.offset = 0 ∧ f1.type = 29 ∧ f1.offset = 3 ∧ f2.type = 4 ∧ f2.offset = 6 := ⟨_, _, _, rfl, rfl, rfl, rfl, rfl, rfl, rfl⟩
  obtain ⟨cs, rfl, hsz, _⟩ : ∃ cs, v = .agg cs ∧ cs.size = Tryz.prog.cellsOf 31 ∧ Row.okWide Tryz.prog w r b0 31 cs := by
    simpa [Value.okWide, hu] using hv
  have hct : Tryz.prog.cellsOf 31 = 7 := by kernel_rfl
  rw [hct] at hsz
  obtain ⟨l⟩ := cs
  obtain ⟨c0, c1, c2, c3, c4, c5, c6, rfl⟩ := list7 l hsz
  obtain ⟨fuel, hf⟩ := h
  obtain ⟨x0, x1, x2, n, _, _, h0, h1, h2⟩ := Go.Deep.trod_struct3 hu hf
  have hc3 : Tryz.prog.cellsOf 26 = 3 := by kernel_rfl
  have hc3' : Tryz.prog.cellsOf 29 = 3 := by kernel_rfl
  have hc1 : Tryz.prog.cellsOf 3 = 1 := by kernel_rfl
  have hc1' : Tryz.prog.cellsOf 4 = 1 := by kernel_rfl
  rw [t0, o0, hc3] at h0
  rw [t1, o1, hc3'] at h1
  rw [t2, o2, hc1'] at h2
  have h0 : DataW.trod enc Tryz.prog w base spare held n 26 [c0, c1, c2] = some x0 := h0
  have h1 : DataW.trod enc Tryz.prog w base spare held n 29 [c3, c4, c5] = some x1 := h1
  have h2 : DataW.trod enc Tryz.prog w base spare held n 4 [c6] = some x2 := h2
  obtain ⟨_, _, _, m, _, g0, g1, g2⟩ := trod_array3 Tryz.underlying26 hc1 h0
  obtain ⟨_, _, _, m', _, g3, g4, g5⟩ := trod_array3 Tryz.underlying29 hc1' h1
  obtain ⟨y0, e0, _, w0⟩ := DataW.trod_int Tryz.underlying3 g0
  obtain ⟨y1, e1, _, w1⟩ := DataW.trod_int Tryz.underlying3 g1
  obtain ⟨y2, e2, _, w2⟩ := DataW.trod_int Tryz.underlying3 g2
  obtain ⟨y3, e3, _⟩ := DataW.trod_bool Tryz.underlying4 g3
  obtain ⟨y4, e4, _⟩ := DataW.trod_bool Tryz.underlying4 g4
  obtain ⟨y5, e5, _⟩ := DataW.trod_bool Tryz.underlying4 g5
  obtain ⟨y6, e6, _⟩ := DataW.trod_bool Tryz.underlying4 h2
  simp at e0 e1 e2 e3 e4 e5 e6
  subst e0 e1 e2 e3 e4 e5 e6
  exact ⟨y0, y1, y2, y3, y4, y5, y6, rfl, w0, w1, w2⟩

end Go.Proofs.YtfbegeopiakccaaGreatDoor

/-
  What the statements that list turn's orders ask ahead of a walk: the orders lie in their variable, as the condition says.
-/
namespace Go.Proofs.YtfbegeopiakccaaGreatDoor
open Go Go.ChangeShapes Go.WideShapes Go.ChangeAt Go.RowKit

def ordLaid : List (String × DataW Unit) := [("tidehall/turn.orders", Rows.laid_tidehall_turn_orders)]

theorem ord_named : Tryz.prog.globalNamed "tidehall/turn.orders" = some 0 := by kernel_rfl
theorem ord_type : (Tryz.prog.globals[0]?).map (·.type) = some 121 := by kernel_rfl

/-- The heap that the program's own start leaves meets the condition. -/
theorem ord_met (os : Os) (args : Array Value) : laidMetH Tryz.prog ordLaid ((World.doorLaid Tryz.prog 20 os).forCall (fun _ _ => 0) ⟨#[], args, []⟩).memory :=
  laidMetH_of_parts3 (fuel := 8) (laidMet_of_run' 8 (by kernel_rfl) (by kernel_rfl)) (by kernel_rfl) (by kernel_rfl)

/-- A row of three numbers that reads as three known ones holds them. -/
theorem row_of {W : World} {fuel : Nat} {cs : List Value} {a b c : Int} {p : List MemPlace}
    (h : DataW.trod (fun _ => ()) Tryz.prog W 0 (fun _ => true) false fuel 26 cs = some (.agg [.lit (.int .i64 a), .lit (.int .i64 b), .lit (.int .i64 c)], p)) : cs = [.int .i64 a, .int .i64 b, .int .i64 c] :=
  Lib.cells_of_tab (zs := [a, b, c]) Tryz.underlying26 Tryz.underlying3 (by kernel_rfl) (by kernel_rfl) h

theorem ord_cells {W : World} {fuel : Nat} {cs : List Value} {p : List MemPlace} (h : DataW.trod (fun _ => ()) Tryz.prog W 0 (fun _ => true) false fuel 121 cs = some (Rows.laid_tidehall_turn_orders, p)) : cs = ordFlat.map (Value.int .i64) := by
  have hc3 : Tryz.prog.cellsOf 26 = 3 := by kernel_rfl
  have hc18 : Tryz.prog.cellsOf 121 = 18 := by kernel_rfl
  cases fuel with
  | zero => simp [DataW.trod] at h
  | succ fuel =>
    simp only [DataW.trod, Tryz.underlying121, hc3, hc18] at h
    split at h
    · rename_i hl
      obtain ⟨xs, hm, hx⟩ := Option.map_eq_some_iff.1 h
      have hd := congrArg Prod.fst hx
      simp only [Rows.laid_tidehall_turn_orders, DataW.agg.injEq] at hd
      have hget : ∀ i, i < 6 → ∃ d q, xs[i]? = some (d, q) ∧ DataW.trod (fun _ => ()) Tryz.prog W 0 (fun _ => true) false fuel 26 ((cs.drop (i * 3)).take 3) = some (d, q) := by
        intro i hi
        obtain ⟨b, hb, hf⟩ := Lib.mapM_at hm i i (by simp [hi])
        exact ⟨b.1, b.2, hb, hf⟩
      have s : ∀ n, (cs.drop n).take 3 ++ cs.drop (n + 3) = cs.drop n := fun n => by
        have := List.take_append_drop 3 (cs.drop n)
        rwa [List.drop_drop] at this
      have h15 : (cs.drop 15).take 3 = cs.drop 15 := List.take_of_length_le (by simp [hl])
      have e : cs = (cs.drop 0).take 3 ++ ((cs.drop 3).take 3 ++ ((cs.drop 6).take 3 ++ ((cs.drop 9).take 3 ++ ((cs.drop 12).take 3 ++ (cs.drop 15).take 3)))) := by
        rw [h15, s 12, s 9, s 6, s 3, s 0]; rfl
      have r0 : (cs.drop 0).take 3 = [.int .i64 0, .int .i64 1, .int .i64 2] := by
        obtain ⟨d, q, hx, hf⟩ := hget 0 (by omega)
        have := congrArg (fun l => l[0]?) hd
        simp only [List.getElem?_map, hx, Option.map_some, List.getElem?_cons_zero, Option.some.injEq] at this
        subst this
        exact row_of hf
      have r1 : (cs.drop 3).take 3 = [.int .i64 0, .int .i64 2, .int .i64 1] := by
        obtain ⟨d, q, hx, hf⟩ := hget 1 (by omega)
        have := congrArg (fun l => l[1]?) hd
        simp only [List.getElem?_map, hx, Option.map_some, List.getElem?_cons_zero, List.getElem?_cons_succ, Option.some.injEq] at this
        subst this
        exact row_of hf
      have r2 : (cs.drop 6).take 3 = [.int .i64 1, .int .i64 0, .int .i64 2] := by
        obtain ⟨d, q, hx, hf⟩ := hget 2 (by omega)
        have := congrArg (fun l => l[2]?) hd
        simp only [List.getElem?_map, hx, Option.map_some, List.getElem?_cons_zero, List.getElem?_cons_succ, Option.some.injEq] at this
        subst this
        exact row_of hf
      have r3 : (cs.drop 9).take 3 = [.int .i64 1, .int .i64 2, .int .i64 0] := by
        obtain ⟨d, q, hx, hf⟩ := hget 3 (by omega)
        have := congrArg (fun l => l[3]?) hd
        simp only [List.getElem?_map, hx, Option.map_some, List.getElem?_cons_zero, List.getElem?_cons_succ, Option.some.injEq] at this
        subst this
        exact row_of hf
      have r4 : (cs.drop 12).take 3 = [.int .i64 2, .int .i64 0, .int .i64 1] := by
        obtain ⟨d, q, hx, hf⟩ := hget 4 (by omega)
        have := congrArg (fun l => l[4]?) hd
        simp only [List.getElem?_map, hx, Option.map_some, List.getElem?_cons_zero, List.getElem?_cons_succ, Option.some.injEq] at this
        subst this
        exact row_of hf
      have r5 : (cs.drop 15).take 3 = [.int .i64 2, .int .i64 1, .int .i64 0] := by
        obtain ⟨d, q, hx, hf⟩ := hget 5 (by omega)
        have := congrArg (fun l => l[5]?) hd
        simp only [List.getElem?_map, hx, Option.map_some, List.getElem?_cons_zero, List.getElem?_cons_succ, Option.some.injEq] at this
        subst this
        exact row_of hf
      rw [e, r0, r1, r2, r3, r4, r5]
      rfl
    · cases h

theorem ord_of {W : World} (h : laidMetH Tryz.prog ordLaid W) : OrdOk W := by
  rw [MakeChecks.laidMetH_plain _ _ _ (by kernel_rfl)] at h
  obtain ⟨ps, ⟨g', t', cs, fuel, p, q, hg', ht', hvar, hd, _, _⟩, _⟩ := h
  obtain rfl := Option.some.inj (ord_named.symm.trans hg')
  obtain rfl := Option.some.inj (ord_type.symm.trans ht')
  have hc := ord_cells hd
  intro j hj
  have := World.var?_cell ord_named hvar j
  rw [this, ← Array.getElem?_toList, hc]
  have hl : j < ordFlat.length := hj
  simp [hl]

/-- No parameter's type asks for a stand-in. -/
theorem no_stand_in (ts : Array TypeId) (h : (ts.toList.all fun t => !Tryz.prog.wantsStandIn t) = true) (j : Nat) (t : TypeId) (ht : ts[j]? = some t) : Tryz.prog.wantsStandIn t = false := by
  have hm : t ∈ ts.toList := by
    obtain ⟨hlt, he⟩ := Array.getElem?_eq_some_iff.1 ht
    rw [← he]
    exact Array.getElem_mem_toList hlt
  have := List.all_eq_true.1 h t hm
  simpa using this

end Go.Proofs.YtfbegeopiakccaaGreatDoor
