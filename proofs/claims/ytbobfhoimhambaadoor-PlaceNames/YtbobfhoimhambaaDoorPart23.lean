/-
  The document's answers of one set (tidehallref03.List, Has, Many); whether two lists are the same (tidehallref02.Ints).
-/
import Derived.Test.YtbobfhoimhambaaDoorPart13
import Derived.Test.YtbobfhoimhambaaDoorPart12
import Derived.Test.YtbobfhoimhambaaDoorPlaceWalks
import Derived.Test.YtbobfhoimhambaaDoorPart1
import Derived.Test.YtbobfhoimhambaaDoorRows
import Derived.ProofKit
import Derived.OpenShut
import Derived.ChangeOld
import Derived.Below
import Derived.Laws.IdiomArrays
import Derived.Test.YtbobfhoimhambaaDoorPart17
import Derived.ChangeSame
import Derived.ChangeArms
import Derived.LaidMore
import Derived.Stop.Joined
import Derived.Lib.LaidTab
import Derived.SevenTiedAt
namespace Go.Proofs.YtbobfhoimhambaaDoor
open Go Go.RowKit Go.Shelf

attribute [local go_sem] Oper.semAt_some ext_const

set_option maxRecDepth 100000 in
set_option maxHeartbeats 2000000 in
theorem ints2_calls {xs ys : List Int} {u v : Value} (w : World) (hu : Its w u xs) (hv : Its w v ys) (hx : xs.length ≤ 100000) :
    Calls Tryd.prog 12 #[u, v] w fun e W' => e = .returned (.bool (decide (xs = ys))) ∧ Below w.heap.size w W' := by
  have hmx : Tryd.prog.follows .mixedOrders = true := by kernel_rfl
  obtain ⟨ao, cap, rfl, hA⟩ := hu.view
  obtain ⟨ao', cap', rfl, hB⟩ := hv.view
  have HA : Hid (∀ k, k < xs.length → ∃ g off, ao = some ⟨g, off, none⟩ ∧ g < w.heap.size ∧ w.cell? ⟨g, off + k, none⟩ = some (I (xs.getD k 0))) := hA
  have HB : Hid (∀ k, k < ys.length → ∃ g off, ao' = some ⟨g, off, none⟩ ∧ g < w.heap.size ∧ w.cell? ⟨g, off + k, none⟩ = some (I (ys.getD k 0))) := hB
  clear hu hv hA hB
  obtain ⟨ans, hans⟩ : ∃ ans, ans = decide (xs = ys) := ⟨_, rfl⟩
  rw [← hans]
  have HS : Hid (ans = decide (xs = ys)) := hans
  clear hans
  by_cases hl : (xs.length : Int) = ys.length
  · have hl' : ys.length = xs.length := by omega
    clear hl
    rw [hl'] at HB ⊢
    have HL : Hid (ys.length = xs.length) := hl'
    clear hl'
    go_enter Tryd.func12, Tryd.ntmps12
    go_wp2
    go_loopw [5] (fun i wr => ∃ k : Nat, k ≤ xs.length ∧ i = .int .i64 k ∧ Hid (xs.take k = ys.take k) ∧ Below w.heap.size w wr) (fun i _ => xs.length - (intOf i).toNat)
    case atStart => exact ⟨0, by omega, rfl, by show _ = _; simp, Below.refl _ _⟩
    case round =>
      obtain ⟨k, hk, rfl, HT, hT⟩ := hrel
      by_cases hlt : (k : Int) < (xs.length : Int)
      · have hkx : k < xs.length := by omega
        obtain ⟨g, off, rfl, hg, hc⟩ := HA.out k hkx
        obtain ⟨g', off', rfl, hg', hc'⟩ := HB.out k hkx
        have e0 : ∀ x : Ext wr, x.wd.cell? ⟨g, off + k, none⟩ = some (I (xs.getD k 0)) := fun x => ((below_ext hT x).cell (p := ⟨g, off + k, none⟩) hg).trans hc
        have e1 : ∀ x : Ext wr, x.wd.cell? ⟨g', off' + k, none⟩ = some (I (ys.getD k 0)) := fun x => ((below_ext hT x).cell (p := ⟨g', off' + k, none⟩) hg').trans hc'
        have HE : Hid (xs.getD k 0 = ys.getD k 0 → xs.take (k + 1) = ys.take (k + 1)) := take_eq_succ hkx (by have := HL.out; omega) HT.out
        have HD : Hid (xs.getD k 0 ≠ ys.getD k 0 → ans = false) := fun hne => by rw [HS.out, decide_eq_false_iff_not]; intro he; exact hne (by rw [he])
        clear hg hg' hc hc'
        generalize xs.getD k 0 = x at e0 HE HD
        generalize ys.getD k 0 = y at e1 HE HD
        cases hq : (x != y)
        · go_wp2
          refine wp_region_look hmx (by kernel_rfl) ?_
          repeat (go_big_quiet_step (fail))
          refine wpQuiet_nil ?_
          intro v
          go_wp2
          go_roundw
          case rel => exact ⟨k + 1, by omega, by go_num, HE.out (by simpa using hq), then_below hT v.le⟩
          case measure => simp [intOf]; omega
        · go_wp2
          refine wp_region_look hmx (by kernel_rfl) ?_
          repeat (go_big_quiet_step (fail))
          refine wpQuiet_nil ?_
          intro v
          go_wp2
          go_ret
          exact ⟨by rw [HD.out (by simpa using hq)]; rfl, then_below hT v.le⟩
      · have E : ans = true := by
          rw [HS.out, decide_eq_true_eq]
          have h1 := HT.out
          rwa [List.take_of_length_le (by omega), List.take_of_length_le (by have := HL.out; omega)] at h1
        subst E
        go_wp2
        go_ret
        exact ⟨rfl, hT⟩
  · have E : ans = false := by rw [HS.out, decide_eq_false_iff_not]; intro he; rw [he] at hl; exact hl rfl
    subst E
    go_enter Tryd.func12, Tryd.ntmps12
    go_wp2
    go_ret
    exact ⟨rfl, Below.refl _ _⟩

end Go.Proofs.YtbobfhoimhambaaDoor

/-
  The chapter's first examples (the statements' 'alive').
-/
namespace Go.Proofs.YtbobfhoimhambaaDoor
open Go Go.RowKit Go.Shelf

theorem alive_err : errAll 70 [[8, 32]] = 0 := by decide +kernel
theorem alive_list : listR 70 [8, 32] = [3, 69] := by decide +kernel
theorem alive_of : ofErr 70 [3, 69, 3] = 0 := by decide +kernel
theorem alive_ok : ofOk 70 [3, 69, 3] = true := by decide +kernel
theorem alive_bits : ∀ k, k < 128 → hasW [8, 32] k = inL [3, 69, 3] k := by decide +kernel
theorem alive_set {ws : List Nat} (h : OfIs 70 [3, 69, 3] ws) : ws = [8, 32] := by
  refine (h.yes alive_ok).ext ⟨rfl, fun x hx => ?_, fun k => ?_⟩
  · simp at hx
    rcases hx with rfl | rfl <;> decide
  · by_cases hk : k < 128
    · exact alive_bits k hk
    · rw [hasW_past (by simp; omega)]
      unfold inL
      symm
      rw [Bool.eq_false_iff]
      intro hc
      simp at hc
      omega

theorem its_of_blk {W : World} {g : Nat} {xs : List Int} {t : TypeId} (h : Blk W g t (xs.map I).toArray) (cap : Nat) : Its W (.slice (some ⟨g, 0, none⟩) xs.length cap) xs := by
  have := Sl.blk h cap
  rw [List.length_map] at this
  exact this
theorem wds_of_blk {W : World} {g : Nat} {ws : List Nat} {t : TypeId} (hw : ∀ x ∈ ws, x < 18446744073709551616) (h : Blk W g t (ws.map U).toArray) (cap : Nat) : Wds W (.slice (some ⟨g, 0, none⟩) ws.length cap) ws := by
  have := Sl.blk h cap
  rw [List.length_map] at this
  exact ⟨hw, this⟩

end Go.Proofs.YtbobfhoimhambaaDoor

/-
  What the statements of layer 6 share: the chapter's dimensions, a place of theirs, and the chapter's first examples.
-/
namespace Go.Proofs.YtbobfhoimhambaaDoor
open Go Go.RowKit Go.Shelf

attribute [local go_sem] Oper.semAt_some ext_const

set_option maxRecDepth 100000 in
theorem pline_calls (w : World) : Calls Tryd.prog 8 #[] w fun e W' => e = .returned (A3 4 1 1) ∧ Below w.heap.size w W' := by
  go_enter Tryd.func8, Tryd.ntmps8
  go_wp2
  have b0 := Blk.new w 27 #[I 4, I 1, I 1]
  have hB := (Below.refl w.heap.size w).alloc (Nat.le_refl _) (.cells #[I 4, I 1, I 1] 27)
  obtain ⟨j0, j1, j2, _⟩ := b0.three (Below.refl _ _)
  generalize w.alloc (.cells #[I 4, I 1, I 1] 27) = W at *
  exact bodyPost_ret (v := A3 4 1 1) (by simp [results, Tryd.f8, go_sem, j0, j1, j2]) rfl ⟨rfl, hB⟩

/-- A place of the chapter's. -/
abbrev bOf (base size : Int) : Bx := ⟨base, 0, 0, size, 1, 1⟩
set_option maxRecDepth 100000 in
theorem pof_calls (base size : Int) (t : Bool) (w : World) : Calls Tryd.prog 9 #[I base, I size, .bool t] w fun e W' => e = .returned (P9 (bOf base size) t false false) ∧ Below w.heap.size w W' := by
  go_enter Tryd.func9, Tryd.ntmps9
  go_wp2
  have b0 := Blk.new w 33 (C9 (bOf base size) t false false)
  have hB := (Below.refl w.heap.size w).alloc (Nat.le_refl _) (.cells (C9 (bOf base size) t false false) 33)
  obtain ⟨⟨x0, x1, x2⟩, ⟨x3, x4, x5⟩, ⟨x6, x7, x8⟩, hz1⟩ := b0.nine (Below.refl _ _)
  generalize w.alloc (.cells (C9 (bOf base size) t false false) 33) = W at *
  exact bodyPost_ret (v := P9 (bOf base size) t false false) (by simp [results, Tryd.f9, go_sem, x0, x1, x2, x3, x4, x5, x6, x7, x8]) rfl ⟨rfl, hB⟩

theorem line_may : mayD 4 1 1 := (okDB_iff _ _ _).1 (by decide)
theorem mesh32 : mayP 4 1 1 (bOf 3 2) false false false := (mayPB_iff _ _ _ _ _ _ _).1 (by decide)
theorem tor32 : mayP 4 1 1 (bOf 3 2) true false false := (mayPB_iff _ _ _ _ _ _ _).1 (by decide)
theorem mesh12 : mayP 4 1 1 (bOf 1 2) false false false := (mayPB_iff _ _ _ _ _ _ _).1 (by decide)
theorem mid32 : midW 4 1 1 (bOf 3 2) = [9] := by decide +kernel
theorem cab32 : cabsW 4 1 1 (bOf 3 2) false false false = [8] := by decide +kernel
theorem cab32t : cabsW 4 1 1 (bOf 3 2) true false false = [15] := by decide +kernel

set_option maxRecDepth 100000 in
set_option maxHeartbeats 4000000 in
theorem aliveP_calls (w : World) : Calls Tryd.prog 11 #[] w fun e W' => e = .returned (.bool true) ∧ Below w.heap.size w W' := by
  have H1 : Hid (∀ w, Calls Tryd.prog 14 #[A3 4 1 1, P9 (bOf 3 2) false false false] w fun e W' => ∃ u v, e = .returned (.tuple #[u, v, I 0]) ∧ SetR W' w.heap.size u [9] ∧ SetR W' w.heap.size v [8] ∧ Below w.heap.size w W') := fun w => by
    have := sets_ok w line_may mesh32
    rwa [mid32, cab32] at this
  have H2 : Hid (∀ w, Calls Tryd.prog 14 #[A3 4 1 1, P9 (bOf 3 2) true false false] w fun e W' => ∃ u v, e = .returned (.tuple #[u, v, I 0]) ∧ SetR W' w.heap.size u [9] ∧ SetR W' w.heap.size v [15] ∧ Below w.heap.size w W') := fun w => by
    have := sets_ok w line_may tor32
    rwa [mid32, cab32t] at this
  go_enter Tryd.func11, Tryd.ntmps11
  go_wp2_with fail
  refine (pline_calls w).mono ?_
  rintro e w1 ⟨rfl, hT⟩
  go_wp2_with fail
  refine (pof_calls 3 2 false _).mono ?_
  rintro e w2 ⟨rfl, hT2⟩
  have hT := then_below hT hT2
  go_wp2_with fail
  refine (H1.out _).mono ?_
  rintro e w3 ⟨u, v, rfl, hu, hv, hT3⟩
  have hT := then_below hT hT3
  clear hT2 hT3
  go_wp2_with fail
  refine (pline_calls _).mono ?_
  rintro e w4 ⟨rfl, hT4⟩
  have hu := hu.later hT4
  have hv := hv.later hT4
  have hT := then_below hT hT4
  clear hT4
  go_wp2_with fail
  refine (pof_calls 3 2 true _).mono ?_
  rintro e w5 ⟨rfl, hT4⟩
  have hu := hu.later hT4
  have hv := hv.later hT4
  have hT := then_below hT hT4
  clear hT4
  go_wp2_with fail
  refine (H2.out _).mono ?_
  rintro e w6 ⟨u2, v2, rfl, hu2, hv2, hT4⟩
  have hu := hu.later hT4
  have hv := hv.later hT4
  have hT := then_below hT hT4
  clear hT4
  go_wp2_with fail
  have hT4 := (Below.refl _ w6).alloc (Nat.le_refl _) (.cells #[U 9] 59)
  have hb : Blk (w6.alloc (.cells #[U 9] 59)) w6.heap.size 59 (List.map U [9]).toArray := Blk.new w6 _ _
  have S := sameS_calls (xs := [9]) (ys := [9]) (v := .slice (some ⟨w6.heap.size, 0, none⟩) 1 1) _ (hu.wds.later hT4) (wds_of_blk (by intro x hx; simp at hx; subst hx; decide) hb 1) (by simp)
  rw [decide_eq_true rfl] at S
  refine S.mono ?_
  rintro e w7 ⟨rfl, hT5⟩
  have hT := then_below hT (then_below hT4 hT5)
  have hv := hv.later (then_below hT4 hT5)
  have hu2 := hu2.later (then_below hT4 hT5)
  have hv2 := hv2.later (then_below hT4 hT5)
  clear S hb hT4 hT5
  go_wp2_with fail
  have hT4 := (Below.refl _ w7).alloc (Nat.le_refl _) (.cells #[U 8] 59)
  have hb : Blk (w7.alloc (.cells #[U 8] 59)) w7.heap.size 59 (List.map U [8]).toArray := Blk.new w7 _ _
  have S := sameS_calls (xs := [8]) (ys := [8]) (v := .slice (some ⟨w7.heap.size, 0, none⟩) 1 1) _ (hv.wds.later hT4) (wds_of_blk (by intro x hx; simp at hx; subst hx; decide) hb 1) (by simp)
  rw [decide_eq_true rfl] at S
  refine S.mono ?_
  rintro e w8 ⟨rfl, hT5⟩
  have hT := then_below hT (then_below hT4 hT5)
  have hu2 := hu2.later (then_below hT4 hT5)
  have hv2 := hv2.later (then_below hT4 hT5)
  clear S hb hT4 hT5
  go_wp2_with fail
  have hT4 := (Below.refl _ w8).alloc (Nat.le_refl _) (.cells #[U 9] 59)
  have hb : Blk (w8.alloc (.cells #[U 9] 59)) w8.heap.size 59 (List.map U [9]).toArray := Blk.new w8 _ _
  have S := sameS_calls (xs := [9]) (ys := [9]) (v := .slice (some ⟨w8.heap.size, 0, none⟩) 1 1) _ (hu2.wds.later hT4) (wds_of_blk (by intro x hx; simp at hx; subst hx; decide) hb 1) (by simp)
  rw [decide_eq_true rfl] at S
  refine S.mono ?_
  rintro e w9 ⟨rfl, hT5⟩
  have hT := then_below hT (then_below hT4 hT5)
  have hv2 := hv2.later (then_below hT4 hT5)
  clear S hb hT4 hT5
  go_wp2_with fail
  have hT4 := (Below.refl _ w9).alloc (Nat.le_refl _) (.cells #[U 15] 59)
  have hb : Blk (w9.alloc (.cells #[U 15] 59)) w9.heap.size 59 (List.map U [15]).toArray := Blk.new w9 _ _
  have S := sameS_calls (xs := [15]) (ys := [15]) (v := .slice (some ⟨w9.heap.size, 0, none⟩) 1 1) _ (hv2.wds.later hT4) (wds_of_blk (by intro x hx; simp at hx; subst hx; decide) hb 1) (by simp)
  rw [decide_eq_true rfl] at S
  refine S.mono ?_
  rintro e w10 ⟨rfl, hT5⟩
  have hT := then_below hT (then_below hT4 hT5)
  clear S hb hT4 hT5
  go_wp2
  go_ret
  exact ⟨rfl, hT⟩

end Go.Proofs.YtbobfhoimhambaaDoor

/-
  The statement PlaceNames, walked.
-/
namespace Go.Proofs.YtbobfhoimhambaaDoor
open Go Go.RowKit Go.Shelf

attribute [local go_sem] Oper.semAt_some ext_const

theorem pass32 : passL 4 1 1 (bOf 3 2) true false false = [1, 2] := by decide +kernel
theorem apart32t : apartB 4 1 1 (bOf 3 2) true false false (bOf 1 2) false false false = false := by decide +kernel
theorem apart32 : apartB 4 1 1 (bOf 3 2) false false false (bOf 1 2) false false false = true := by decide +kernel
theorem err01 : errP 4 1 1 (bOf 0 1) true false false = 2 := by decide +kernel
theorem err14 : errP 4 1 1 (bOf 1 4) false false false = 2 := by decide +kernel

set_option maxRecDepth 100000 in
set_option maxHeartbeats 8000000 in
theorem placeNames_walk (w : World) (hTab : TabOk w) : Calls Tryd.prog 3 #[] w fun e W' => e = .returned (.bool true) ∧ Below w.heap.size w W' := by
  have H1 : Hid (∀ w, TabOk w → Calls Tryd.prog 7 #[A3 4 1 1, P9 (bOf 3 2) true false false] w fun e W' => ∃ v, e = .returned (.tuple #[v, I 0]) ∧ Lst W' w.heap.size v [1, 2] ∧ Below w.heap.size w W') := fun w ht => by
    have := passes_ok w ht line_may tor32
    rwa [pass32] at this
  have H2 : Hid (∀ w, Calls Tryd.prog 10 #[A3 4 1 1, P9 (bOf 3 2) true false false, P9 (bOf 1 2) false false false] w fun e W' => e = .returned (.tuple #[.bool false, I 0]) ∧ Below w.heap.size w W') := fun w => by
    have := apart_ok w line_may tor32 mesh12
    rwa [apart32t] at this
  have H3 : Hid (∀ w, Calls Tryd.prog 10 #[A3 4 1 1, P9 (bOf 3 2) false false false, P9 (bOf 1 2) false false false] w fun e W' => e = .returned (.tuple #[.bool true, I 0]) ∧ Below w.heap.size w W') := fun w => by
    have := apart_ok w line_may mesh32 mesh12
    rwa [apart32] at this
  have H4 : Hid (∀ w, Calls Tryd.prog 13 #[A3 4 1 1, P9 (bOf 0 1) true false false] w fun e W' => e = .returned (I 2) ∧ Below w.heap.size w W') := fun w => by
    have := pcheck_calls 4 1 1 (bOf 0 1) true false false w
    rwa [err01] at this
  have H5 : Hid (∀ w, Calls Tryd.prog 13 #[A3 4 1 1, P9 (bOf 1 4) false false false] w fun e W' => e = .returned (I 2) ∧ Below w.heap.size w W') := fun w => by
    have := pcheck_calls 4 1 1 (bOf 1 4) false false false w
    rwa [err14] at this
  go_enter Tryd.func3, Tryd.ntmps3
  go_wp2_with fail
  refine (pline_calls w).mono ?_
  rintro e w1 ⟨rfl, hT⟩
  go_wp2_with fail
  refine (pof_calls 3 2 true _).mono ?_
  rintro e w2 ⟨rfl, hT2⟩
  have hT := then_below hT hT2
  clear hT2
  go_wp2_with fail
  refine (H1.out _ (hTab.later hT)).mono ?_
  rintro e w3 ⟨l, rfl, hl, hT2⟩
  have hT := then_below hT hT2
  clear hT2
  go_wp2_with fail
  refine (pline_calls _).mono ?_
  rintro e w4 ⟨rfl, hT2⟩
  have hl := hl.later hT2
  have hT := then_below hT hT2
  clear hT2
  go_wp2_with fail
  refine (pof_calls 3 2 true _).mono ?_
  rintro e w5 ⟨rfl, hT2⟩
  have hl := hl.later hT2
  have hT := then_below hT hT2
  clear hT2
  go_wp2_with fail
  refine (pof_calls 1 2 false _).mono ?_
  rintro e w6 ⟨rfl, hT2⟩
  have hl := hl.later hT2
  have hT := then_below hT hT2
  clear hT2
  go_wp2_with fail
  refine (H2.out _).mono ?_
  rintro e w7 ⟨rfl, hT2⟩
  have hl := hl.later hT2
  have hT := then_below hT hT2
  clear hT2
  go_wp2_with fail
  refine (pline_calls _).mono ?_
  rintro e w8 ⟨rfl, hT2⟩
  have hl := hl.later hT2
  have hT := then_below hT hT2
  clear hT2
  go_wp2_with fail
  refine (pof_calls 3 2 false _).mono ?_
  rintro e w9 ⟨rfl, hT2⟩
  have hl := hl.later hT2
  have hT := then_below hT hT2
  clear hT2
  go_wp2_with fail
  refine (pof_calls 1 2 false _).mono ?_
  rintro e w10 ⟨rfl, hT2⟩
  have hl := hl.later hT2
  have hT := then_below hT hT2
  clear hT2
  go_wp2_with fail
  refine (H3.out _).mono ?_
  rintro e w11 ⟨rfl, hT2⟩
  have hl := hl.later hT2
  have hT := then_below hT hT2
  clear hT2
  go_wp2_with fail
  refine (aliveP_calls _).mono ?_
  rintro e w12 ⟨rfl, hT2⟩
  have hl := hl.later hT2
  have hT := then_below hT hT2
  clear hT2
  go_wp2_with fail
  have hT4 := (Below.refl _ w12).alloc (Nat.le_refl _) (.cells #[I 1, I 2] 3)
  have hb : Blk (w12.alloc (.cells #[I 1, I 2] 3)) w12.heap.size 3 (List.map I [1, 2]).toArray := Blk.new w12 _ _
  have S := ints2_calls (xs := [1, 2]) (ys := [1, 2]) (v := .slice (some ⟨w12.heap.size, 0, none⟩) 2 2) _ (hl.its.later hT4) (its_of_blk hb 2) (by simp)
  rw [decide_eq_true rfl] at S
  refine S.mono ?_
  rintro e w13 ⟨rfl, hT5⟩
  have hT := then_below hT (then_below hT4 hT5)
  have hl := hl.later (then_below hT4 hT5)
  clear S hb hT4 hT5
  go_wp2_with fail
  refine (pline_calls _).mono ?_
  rintro e w14 ⟨rfl, hT2⟩
  have hl := hl.later hT2
  have hT := then_below hT hT2
  clear hT2
  go_wp2_with fail
  refine (pof_calls 0 1 true _).mono ?_
  rintro e w15 ⟨rfl, hT2⟩
  have hl := hl.later hT2
  have hT := then_below hT hT2
  clear hT2
  go_wp2_with fail
  refine (H4.out _).mono ?_
  rintro e w16 ⟨rfl, hT2⟩
  have hl := hl.later hT2
  have hT := then_below hT hT2
  clear hT2
  go_wp2_with fail
  refine (pline_calls _).mono ?_
  rintro e w17 ⟨rfl, hT2⟩
  have hl := hl.later hT2
  have hT := then_below hT hT2
  clear hT2
  go_wp2_with fail
  refine (pof_calls 1 4 false _).mono ?_
  rintro e w18 ⟨rfl, hT2⟩
  have hl := hl.later hT2
  have hT := then_below hT hT2
  clear hT2
  go_wp2_with fail
  refine (H5.out _).mono ?_
  rintro e w19 ⟨rfl, hT2⟩
  have hl := hl.later hT2
  have hT := then_below hT hT2
  clear hT2
  go_wp2
  go_ret
  exact ⟨rfl, hT⟩

end Go.Proofs.YtbobfhoimhambaaDoor

/-
  How the arguments of this seat's statements are opened: whole numbers, and rows of three of them.
-/
namespace Go.Proofs.YtbobfhoimhambaaDoor
open Go.ChangeShapes Go.WideShapes Go.ChangeAt Go.RowKit

theorem own : ownKnob Tryd.prog.godebug = none := by kernel_rfl
theorem laidOut : laidOutB Tryd.prog = true := by kernel_rfl

theorem list3 {α : Type} (l : List α) (h : (⟨l⟩ : Array α).size = 3) : ∃ a b c, l = [a, b, c] := by
  match l, h with
  | [a, b, c], _ => exact ⟨a, b, c, rfl⟩

/-- A row of three whole numbers, by value. -/
theorem open_arr3 {P : Program} {w : World} {H : Type} {enc : TypeId × Value → H} {r : Reach} {b0 base : Nat} {spare : Nat → Bool} {held : Bool} {t e : TypeId} {v : Value} {d : DataW H} {p : List MemPlace}
    (ht : P.underlying t = some (.array 3 e)) (he : P.underlying e = some (.int .i64)) (hce : P.cellsOf e = 1) (hct : P.cellsOf t = 3)
    (hv : Value.okWide P w r b0 t v) (h : DataW.Trod enc P w base spare held t v d p) :
    ∃ a b c : Int, v = A3 a b c ∧ (Lit.int .i64 a).wf = true ∧ (Lit.int .i64 b).wf = true ∧ (Lit.int .i64 c).wf = true := by
  obtain ⟨cs, rfl, hsz, _⟩ : ∃ cs, v = .agg cs ∧ cs.size = P.cellsOf t ∧ Row.okWide P w r b0 t cs := by
    simpa [Value.okWide, ht] using hv
  rw [hct] at hsz
  obtain ⟨l⟩ := cs
  obtain ⟨c0, c1, c2, rfl⟩ := list3 l hsz
  obtain ⟨fuel, hf⟩ := h
  obtain ⟨y0, y1, y2, m, hx, hy0, hy1, hy2⟩ := trod_array3 ht hce hf
  obtain ⟨x0, e0, rfl, w0⟩ := DataW.trod_int he hy0
  obtain ⟨x1, e1, rfl, w1⟩ := DataW.trod_int he hy1
  obtain ⟨x2, e2, rfl, w2⟩ := DataW.trod_int he hy2
  simp at e0 e1 e2
  subst e0 e1 e2
  exact ⟨x0, x1, x2, rfl, w0, w1, w2⟩

theorem open_num {P : Program} {w : World} {H : Type} {enc : TypeId × Value → H} {r : Reach} {b0 base : Nat} {spare : Nat → Bool} {held : Bool} {t : TypeId} {k : IntKind} {v : Value} {d : DataW H} {p : List MemPlace}
    (ht : P.underlying t = some (.int k)) (hv : Value.okWide P w r b0 t v) (h : DataW.Trod enc P w base spare held t v d p) :
    ∃ a : Int, v = .int k a ∧ (Lit.int k a).wf = true := by
  obtain ⟨x, rfl, rfl, rfl, wx⟩ := open_int ht hv h
  exact ⟨x, rfl, wx⟩

theorem trod_lt' {H : Type} {enc : TypeId × Value → H} {P : Program} {W : World} {t : TypeId} {v : Value} {d : DataW H} {ps : List MemPlace} {sp : Nat → Bool} (h : DataW.Trod enc P W 0 sp true t v d ps) : ∀ x ∈ ps, x.block < W.heap.size := by
  obtain ⟨m, hm⟩ := h; exact DataW.trod_lt m _ _ _ hm

end Go.Proofs.YtbobfhoimhambaaDoor

/-
  How a place among a statement's arguments is opened: a box's six whole numbers, and three tori.
-/
namespace Go.Proofs.YtbobfhoimhambaaDoor
open Go.ChangeShapes Go.WideShapes Go.ChangeAt Go.RowKit

theorem list9 {α : Type} (l : List α) (h : (⟨l⟩ : Array α).size = 9) : ∃ a b c d e f g i j, l = [a, b, c, d, e, f, g, i, j] := by
  match l, h with
  | [a, b, c, d, e, f, g, i, j], _ => exact ⟨a, b, c, d, e, f, g, i, j, rfl⟩

set_option maxRecDepth 100000 in
theorem open_place {w : World} {H : Type} {enc : TypeId × Value → H} {r : Reach} {b0 base : Nat} {spare : Nat → Bool} {held : Bool} {v : Value} {d : DataW H} {p : List MemPlace}
    (hv : Value.okWide Tryd.prog w r b0 33 v) (h : DataW.Trod enc Tryd.prog w base spare held 33 v d p) : ∃ (b : Bx) (t0 t1 t2 : Bool), v = P9 b t0 t1 t2 := by
  obtain ⟨f0, f1, hu, t0, o0, t1, o1⟩ : ∃ f0 f1, Tryd.prog.underlying 33 = some (.struct #[f0, f1]) ∧ f0.type = 30 ∧ f0.offset = 0 ∧ f1.type = 31 ∧ f1.offset = 6 := ⟨_, _, rfl, rfl, rfl, rfl, rfl⟩
  obtain ⟨s0, s1, hs, q0, r0, q1, r1⟩ : ∃ f0 f1, Tryd.prog.underlying 30 = some (.struct #[f0, f1]) ∧ f0.type = 26 ∧ f0.offset = 0 ∧ f1.type = 26 ∧ f1.offset = 3 := ⟨_, _, rfl, rfl, rfl, rfl, rfl⟩
  obtain ⟨cs, rfl, hsz, _⟩ : ∃ cs, v = .agg cs ∧ cs.size = Tryd.prog.cellsOf 33 ∧ Row.okWide Tryd.prog w r b0 33 cs := by
    simpa [Value.okWide, hu] using hv
  have hct : Tryd.prog.cellsOf 33 = 9 := by kernel_rfl
  rw [hct] at hsz
  obtain ⟨l⟩ := cs
  obtain ⟨c0, c1, c2, c3, c4, c5, c6, c7, c8, rfl⟩ := list9 l hsz
  obtain ⟨fuel, hf⟩ := h
  obtain ⟨x, y, n, _, _, h0, h1⟩ := trod_struct2 hu hf
  have hc6 : Tryd.prog.cellsOf 30 = 6 := by kernel_rfl
  have hc3 : Tryd.prog.cellsOf 26 = 3 := by kernel_rfl
  have hc3' : Tryd.prog.cellsOf 31 = 3 := by kernel_rfl
  have hc1 : Tryd.prog.cellsOf 3 = 1 := by kernel_rfl
  have hc1' : Tryd.prog.cellsOf 4 = 1 := by kernel_rfl
  rw [t0, o0, hc6] at h0
  rw [t1, o1, hc3'] at h1
  have h0 : DataW.trod enc Tryd.prog w base spare held n 30 [c0, c1, c2, c3, c4, c5] = some x := h0
  have h1 : DataW.trod enc Tryd.prog w base spare held n 31 [c6, c7, c8] = some y := h1
  obtain ⟨x', y', n', _, _, h2, h3⟩ := trod_struct2 hs h0
  rw [q0, r0, hc3] at h2
  rw [q1, r1, hc3] at h3
  have h2 : DataW.trod enc Tryd.prog w base spare held n' 26 [c0, c1, c2] = some x' := h2
  have h3 : DataW.trod enc Tryd.prog w base spare held n' 26 [c3, c4, c5] = some y' := h3
  obtain ⟨_, _, _, m, _, g0, g1, g2⟩ := trod_array3 Tryd.underlying26 hc1 h2
  obtain ⟨_, _, _, m', _, g3, g4, g5⟩ := trod_array3 Tryd.underlying26 hc1 h3
  obtain ⟨_, _, _, m'', _, g6, g7, g8⟩ := trod_array3 Tryd.underlying31 hc1' h1
  obtain ⟨x0, e0, _, _⟩ := DataW.trod_int Tryd.underlying3 g0
  obtain ⟨x1, e1, _, _⟩ := DataW.trod_int Tryd.underlying3 g1
  obtain ⟨x2, e2, _, _⟩ := DataW.trod_int Tryd.underlying3 g2
  obtain ⟨x3, e3, _, _⟩ := DataW.trod_int Tryd.underlying3 g3
  obtain ⟨x4, e4, _, _⟩ := DataW.trod_int Tryd.underlying3 g4
  obtain ⟨x5, e5, _, _⟩ := DataW.trod_int Tryd.underlying3 g5
  obtain ⟨y6, e6, _⟩ := DataW.trod_bool Tryd.underlying4 g6
  obtain ⟨y7, e7, _⟩ := DataW.trod_bool Tryd.underlying4 g7
  obtain ⟨y8, e8, _⟩ := DataW.trod_bool Tryd.underlying4 g8
  simp at e0 e1 e2 e3 e4 e5 e6 e7 e8
  subst e0 e1 e2 e3 e4 e5 e6 e7 e8
  exact ⟨⟨x0, x1, x2, x3, x4, x5⟩, y6, y7, y8, rfl⟩

end Go.Proofs.YtbobfhoimhambaaDoor

/-
  What the statements that list math/bits' table ask ahead of a walk: the table lies in its variable, as the condition says.
-/
namespace Go.Proofs.YtbobfhoimhambaaDoor
open Go Go.ChangeShapes Go.WideShapes Go.ChangeAt Go.RowKit

def tabLaid : List (String × DataW Unit) := [("math/bits.deBruijn64tab", Rows.laid_math_bits_deBruijn64tab)]

theorem tab_named : Tryd.prog.globalNamed "math/bits.deBruijn64tab" = some 0 := by kernel_rfl
theorem tab_type : (Tryd.prog.globals[0]?).map (·.type) = some 98 := by kernel_rfl

/-- The heap that the program's own start leaves meets the condition. -/
theorem door_met (os : Os) (args : Array Value) : laidMetH Tryd.prog tabLaid ((World.doorLaid Tryd.prog 14 os).forCall (fun _ _ => 0) ⟨#[], args, []⟩).memory :=
  laidMetH_of_parts3 (fuel := 8) (laidMet_of_run' 8 (by kernel_rfl) (by kernel_rfl)) (by kernel_rfl) (by kernel_rfl)

theorem tab_datum : (Rows.laid_math_bits_deBruijn64tab : DataW Unit) = Lib.tabData .u8 (ofN Lib.deBruijn64tab) := rfl

theorem tab_of {W : World} (h : laidMetH Tryd.prog tabLaid W) : TabOk W := by
  rw [MakeChecks.laidMetH_plain _ _ _ (by kernel_rfl)] at h
  unfold tabLaid at h
  rw [tab_datum] at h
  have hT := Lib.tabIs_of_head tab_named tab_type Tryd.underlying98 Tryd.underlying5 (by kernel_rfl) (by kernel_rfl) h
  intro j hj
  have := hT.cell tab_named j (by rw [ofN_len]; exact hj)
  rw [this, ofN_get]

/-- No parameter's type asks for a stand-in. -/
theorem noS_stand_in (ts : Array TypeId) (h : (ts.toList.all fun t => !Tryd.prog.wantsStandIn t) = true) (j : Nat) (t : TypeId) (ht : ts[j]? = some t) : Tryd.prog.wantsStandIn t = false := by
  have hm : t ∈ ts.toList := by
    obtain ⟨hlt, he⟩ := Array.getElem?_eq_some_iff.1 ht
    rw [← he]
    exact Array.getElem_mem_toList hlt
  have := List.all_eq_true.1 h t hm
  simpa using this

end Go.Proofs.YtbobfhoimhambaaDoor
