/-
  The document's answers of one set (tidehallref03.List, Has, Many); whether two lists are the same (tidehallref02.Ints).
-/
import Derived.Test.YtbobfhoimhambaaDoorPart13
import Derived.Test.YtbobfhoimhambaaDoorPart12
import Derived.Test.YtbobfhoimhambaaDoorPlaceWalks
import Derived.Test.YtbobfhoimhambaaDoorPart1
import Derived.Test.YtbobfhoimhambaaDoorRows
import Derived.ProofKit
import Derived.OpenShut
import Derived.ChangeOld
import Derived.Below
import Derived.Laws.IdiomArrays
namespace Go.Proofs.YtbobfhoimhambaaDoor
open Go Go.RowKit Go.Shelf

attribute [local go_sem] Oper.semAt_some ext_const

set_option maxRecDepth 100000 in
set_option maxHeartbeats 2000000 in
theorem ints2_calls {xs ys : List Int} {u v : Value} (w : World) (hu : Its w u xs) (hv : Its w v ys) (hx : xs.length ≤ 100000) :
    Calls Tryd.prog 12 #[u, v] w fun e W' => e = .returned (.bool (decide (xs = ys))) ∧ Below w.heap.size w W' := by
  have hmx : Tryd.prog.follows .mixedOrders = true := by kernel_rfl
  obtain ⟨ao, cap, rfl, hA⟩ := hu.view
  obtain ⟨ao', cap', rfl, hB⟩ := hv.view
  have HA : Hid (∀ k, k < xs.length → ∃ g off, ao = some ⟨g, off, none⟩ ∧ g < w.heap.size ∧ w.cell? ⟨g, off + k, none⟩ = some (I (xs.getD k 0))) := hA
  have HB : Hid (∀ k, k < ys.length → ∃ g off, ao' = some ⟨g, off, none⟩ ∧ g < w.heap.size ∧ w.cell? ⟨g, off + k, none⟩ = some (I (ys.getD k 0))) := hB
  clear hu hv hA hB
  obtain ⟨ans, hans⟩ : ∃ ans, ans = decide (xs = ys) := ⟨_, rfl⟩
  rw [← hans]
  have HS : Hid (ans = decide (xs = ys)) := hans
  clear hans
  by_cases hl : (xs.length : Int) = ys.length
  · have hl' : ys.length = xs.length := by omega
    clear hl
    rw [hl'] at HB ⊢
    have HL : Hid (ys.length = xs.length) := hl'
    clear hl'
    go_enter Tryd.func12, Tryd.ntmps12
    go_wp2
    go_loopw [5] (fun i wr => ∃ k : Nat, k ≤ xs.length ∧ i = .int .i64 k ∧ Hid (xs.take k = ys.take k) ∧ Below w.heap.size w wr) (fun i _ => xs.length - (intOf i).toNat)
    case atStart => exact ⟨0, by omega, rfl, by show _ = _; simp, Below.refl _ _⟩
    case round =>
      obtain ⟨k, hk, rfl, HT, hT⟩ := hrel
      by_cases hlt : (k : Int) < (xs.length : Int)
      · have hkx : k < xs.length := by omega
        obtain ⟨g, off, rfl, hg, hc⟩ := HA.out k hkx
        obtain ⟨g', off', rfl, hg', hc'⟩ := HB.out k hkx
        have e0 : ∀ x : Ext wr, x.wd.cell? ⟨g, off + k, none⟩ = some (I (xs.getD k 0)) := fun x => ((below_ext hT x).cell (p := ⟨g, off + k, none⟩) hg).trans hc
        have e1 : ∀ x : Ext wr, x.wd.cell? ⟨g', off' + k, none⟩ = some (I (ys.getD k 0)) := fun x => ((below_ext hT x).cell (p := ⟨g', off' + k, none⟩) hg').trans hc'
        have HE : Hid (xs.getD k 0 = ys.getD k 0 → xs.take (k + 1) = ys.take (k + 1)) := take_eq_succ hkx (by have := HL.out; omega) HT.out
        have HD : Hid (xs.getD k 0 ≠ ys.getD k 0 → ans = false) := fun hne => by rw [HS.out, decide_eq_false_iff_not]; intro he; exact hne (by rw [he])
        clear hg hg' hc hc'
        generalize xs.getD k 0 = x at e0 HE HD
        generalize ys.getD k 0 = y at e1 HE HD
        cases hq : (x != y)
        · go_wp2
          refine wp_region_look hmx (by kernel_rfl) ?_
          repeat (go_big_quiet_step (fail))
          refine wpQuiet_nil ?_
          intro v
          go_wp2
          go_roundw
          case rel => exact ⟨k + 1, by omega, by go_num, HE.out (by simpa using hq), then_below hT v.le⟩
          case measure => simp [intOf]; omega
        · go_wp2
          refine wp_region_look hmx (by kernel_rfl) ?_
          repeat (go_big_quiet_step (fail))
          refine wpQuiet_nil ?_
          intro v
          go_wp2
          go_ret
          exact ⟨by rw [HD.out (by simpa using hq)]; rfl, then_below hT v.le⟩
      · have E : ans = true := by
          rw [HS.out, decide_eq_true_eq]
          have h1 := HT.out
          rwa [List.take_of_length_le (by omega), List.take_of_length_le (by have := HL.out; omega)] at h1
        subst E
        go_wp2
        go_ret
        exact ⟨rfl, hT⟩
  · have E : ans = false := by rw [HS.out, decide_eq_false_iff_not]; intro he; rw [he] at hl; exact hl rfl
    subst E
    go_enter Tryd.func12, Tryd.ntmps12
    go_wp2
    go_ret
    exact ⟨rfl, Below.refl _ _⟩

end Go.Proofs.YtbobfhoimhambaaDoor

/-
  The chapter's first examples (the statements' 'alive').
-/
namespace Go.Proofs.YtbobfhoimhambaaDoor
open Go Go.RowKit Go.Shelf

theorem alive_err : errAll 70 [[8, 32]] = 0 := by decide +kernel
theorem alive_list : listR 70 [8, 32] = [3, 69] := by decide +kernel
theorem alive_of : ofErr 70 [3, 69, 3] = 0 := by decide +kernel
theorem alive_ok : ofOk 70 [3, 69, 3] = true := by decide +kernel
theorem alive_bits : ∀ k, k < 128 → hasW [8, 32] k = inL [3, 69, 3] k := by decide +kernel
theorem alive_set {ws : List Nat} (h : OfIs 70 [3, 69, 3] ws) : ws = [8, 32] := by
  refine (h.yes alive_ok).ext ⟨rfl, fun x hx => ?_, fun k => ?_⟩
  · simp at hx
    rcases hx with rfl | rfl <;> decide
  · by_cases hk : k < 128
    · exact alive_bits k hk
    · rw [hasW_past (by simp; omega)]
      unfold inL
      symm
      rw [Bool.eq_false_iff]
      intro hc
      simp at hc
      omega

theorem its_of_blk {W : World} {g : Nat} {xs : List Int} {t : TypeId} (h : Blk W g t (xs.map I).toArray) (cap : Nat) : Its W (.slice (some ⟨g, 0, none⟩) xs.length cap) xs := by
  have := Sl.blk h cap
  rw [List.length_map] at this
  exact this
theorem wds_of_blk {W : World} {g : Nat} {ws : List Nat} {t : TypeId} (hw : ∀ x ∈ ws, x < 18446744073709551616) (h : Blk W g t (ws.map U).toArray) (cap : Nat) : Wds W (.slice (some ⟨g, 0, none⟩) ws.length cap) ws := by
  have := Sl.blk h cap
  rw [List.length_map] at this
  exact ⟨hw, this⟩

end Go.Proofs.YtbobfhoimhambaaDoor

/-
  What the statements of layer 6 share: the chapter's dimensions, a place of theirs, and the chapter's first examples.
-/
namespace Go.Proofs.YtbobfhoimhambaaDoor
open Go Go.RowKit Go.Shelf

attribute [local go_sem] Oper.semAt_some ext_const

set_option maxRecDepth 100000 in
theorem pline_calls (w : World) : Calls Tryd.prog 8 #[] w fun e W' => e = .returned (A3 4 1 1) ∧ Below w.heap.size w W' := by
  go_enter Tryd.func8, Tryd.ntmps8
  go_wp2
  have b0 := Blk.new w 27 #[I 4, I 1, I 1]
  have hB := (Below.refl w.heap.size w).alloc (Nat.le_refl _) (.cells #[I 4, I 1, I 1] 27)
  obtain ⟨j0, j1, j2, _⟩ := b0.three (Below.refl _ _)
  generalize w.alloc (.cells #[I 4, I 1, I 1] 27) = W at *
  exact bodyPost_ret (v := A3 4 1 1) (by simp [results, Tryd.f8, go_sem, j0, j1, j2]) rfl ⟨rfl, hB⟩

/-- A place of the chapter's. -/
abbrev bOf (base size : Int) : Bx := ⟨base, 0, 0, size, 1, 1⟩
set_option maxRecDepth 100000 in
theorem pof_calls (base size : Int) (t : Bool) (w : World) : Calls Tryd.prog 9 #[I base, I size, .bool t] w fun e W' => e = .returned (P9 (bOf base size) t false false) ∧ Below w.heap.size w W' := by
  go_enter Tryd.func9, Tryd.ntmps9
  go_wp2
  have b0 := Blk.new w 33 (C9 (bOf base size) t false false)
  have hB := (Below.refl w.heap.size w).alloc (Nat.le_refl _) (.cells (C9 (bOf base size) t false false) 33)
  obtain ⟨⟨x0, x1, x2⟩, ⟨x3, x4, x5⟩, ⟨x6, x7, x8⟩, hz1⟩ := b0.nine (Below.refl _ _)
  generalize w.alloc (.cells (C9 (bOf base size) t false false) 33) = W at *
  exact bodyPost_ret (v := P9 (bOf base size) t false false) (by simp [results, Tryd.f9, go_sem, x0, x1, x2, x3, x4, x5, x6, x7, x8]) rfl ⟨rfl, hB⟩

theorem line_may : mayD 4 1 1 := (okDB_iff _ _ _).1 (by decide)
theorem mesh32 : mayP 4 1 1 (bOf 3 2) false false false := (mayPB_iff _ _ _ _ _ _ _).1 (by decide)
theorem tor32 : mayP 4 1 1 (bOf 3 2) true false false := (mayPB_iff _ _ _ _ _ _ _).1 (by decide)
theorem mesh12 : mayP 4 1 1 (bOf 1 2) false false false := (mayPB_iff _ _ _ _ _ _ _).1 (by decide)
theorem mid32 : midW 4 1 1 (bOf 3 2) = [9] := by decide +kernel
theorem cab32 : cabsW 4 1 1 (bOf 3 2) false false false = [8] := by decide +kernel
theorem cab32t : cabsW 4 1 1 (bOf 3 2) true false false = [15] := by decide +kernel

set_option maxRecDepth 100000 in
set_option maxHeartbeats 4000000 in
theorem aliveP_calls (w : World) : Calls Tryd.prog 11 #[] w fun e W' => e = .returned (.bool true) ∧ Below w.heap.size w W' := by
  have H1 : Hid (∀ w, Calls Tryd.prog 14 #[A3 4 1 1, P9 (bOf 3 2) false false false] w fun e W' => ∃ u v, e = .returned (.tuple #[u, v, I 0]) ∧ SetR W' w.heap.size u [9] ∧ SetR W' w.heap.size v [8] ∧ Below w.heap.size w W') := fun w => by
    have := sets_ok w line_may mesh32
    rwa [mid32, cab32] at this
  have H2 : Hid (∀ w, Calls Tryd.prog 14 #[A3 4 1 1, P9 (bOf 3 2) true false false] w fun e W' => ∃ u v, e = .returned (.tuple #[u, v, I 0]) ∧ SetR W' w.heap.size u [9] ∧ SetR W' w.heap.size v [15] ∧ Below w.heap.size w W') := fun w => by
    have := sets_ok w line_may tor32
    rwa [mid32, cab32t] at this
  go_enter Tryd.func11, Tryd.ntmps11
  go_wp2_with fail
  refine (pline_calls w).mono ?_
  rintro e w1 ⟨rfl, hT⟩
  go_wp2_with fail
  refine (pof_calls 3 2 false _).mono ?_
  rintro e w2 ⟨rfl, hT2⟩
  have hT := then_below hT hT2
  go_wp2_with fail
  refine (H1.out _).mono ?_
  rintro e w3 ⟨u, v, rfl, hu, hv, hT3⟩
  have hT := then_below hT hT3
  clear hT2 hT3
  go_wp2_with fail
  refine (pline_calls _).mono ?_
  rintro e w4 ⟨rfl, hT4⟩
  have hu := hu.later hT4
  have hv := hv.later hT4
  have hT := then_below hT hT4
  clear hT4
  go_wp2_with fail
  refine (pof_calls 3 2 true _).mono ?_
  rintro e w5 ⟨rfl, hT4⟩
  have hu := hu.later hT4
  have hv := hv.later hT4
  have hT := then_below hT hT4
  clear hT4
  go_wp2_with fail
  refine (H2.out _).mono ?_
  rintro e w6 ⟨u2, v2, rfl, hu2, hv2, hT4⟩
  have hu := hu.later hT4
  have hv := hv.later hT4
  have hT := then_below hT hT4
  clear hT4
  go_wp2_with fail
  have hT4 := (Below.refl _ w6).alloc (Nat.le_refl _) (.cells #[U 9] 59)
  have hb : Blk (w6.alloc (.cells #[U 9] 59)) w6.heap.size 59 (List.map U [9]).toArray := Blk.new w6 _ _
  have S := sameS_calls (xs := [9]) (ys := [9]) (v := .slice (some ⟨w6.heap.size, 0, none⟩) 1 1) _ (hu.wds.later hT4) (wds_of_blk (by intro x hx; simp at hx; subst hx; decide) hb 1) (by simp)
  rw [decide_eq_true rfl] at S
  refine S.mono ?_
  rintro e w7 ⟨rfl, hT5⟩
  have hT := then_below hT (then_below hT4 hT5)
  have hv := hv.later (then_below hT4 hT5)
  have hu2 := hu2.later (then_below hT4 hT5)
  have hv2 := hv2.later (then_below hT4 hT5)
  clear S hb hT4 hT5
  go_wp2_with fail
  have hT4 := (Below.refl _ w7).alloc (Nat.le_refl _) (.cells #[U 8] 59)
  have hb : Blk (w7.alloc (.cells #[U 8] 59)) w7.heap.size 59 (List.map U [8]).toArray := Blk.new w7 _ _
  have S := sameS_calls (xs := [8]) (ys := [8]) (v := .slice (some ⟨w7.heap.size, 0, none⟩) 1 1) _ (hv.wds.later hT4) (wds_of_blk (by intro x hx; simp at hx; subst hx; decide) hb 1) (by simp)
  rw [decide_eq_true rfl] at S
  refine S.mono ?_
  rintro e w8 ⟨rfl, hT5⟩
  have hT := then_below hT (then_below hT4 hT5)
  have hu2 := hu2.later (then_below hT4 hT5)
  have hv2 := hv2.later (then_below hT4 hT5)
  clear S hb hT4 hT5
  go_wp2_with fail
  have hT4 := (Below.refl _ w8).alloc (Nat.le_refl _) (.cells #[U 9] 59)
  have hb : Blk (w8.alloc (.cells #[U 9] 59)) w8.heap.size 59 (List.map U [9]).toArray := Blk.new w8 _ _
  have S := sameS_calls (xs := [9]) (ys := [9]) (v := .slice (some ⟨w8.heap.size, 0, none⟩) 1 1) _ (hu2.wds.later hT4) (wds_of_blk (by intro x hx; simp at hx; subst hx; decide) hb 1) (by simp)
  rw [decide_eq_true rfl] at S
  refine S.mono ?_
  rintro e w9 ⟨rfl, hT5⟩
  have hT := then_below hT (then_below hT4 hT5)
  have hv2 := hv2.later (then_below hT4 hT5)
  clear S hb hT4 hT5
  go_wp2_with fail
  have hT4 := (Below.refl _ w9).alloc (Nat.le_refl _) (.cells #[U 15] 59)
  have hb : Blk (w9.alloc (.cells #[U 15] 59)) w9.heap.size 59 (List.map U [15]).toArray := Blk.new w9 _ _
  have S := sameS_calls (xs := [15]) (ys := [15]) (v := .slice (some ⟨w9.heap.size, 0, none⟩) 1 1) _ (hv2.wds.later hT4) (wds_of_blk (by intro x hx; simp at hx; subst hx; decide) hb 1) (by simp)
  rw [decide_eq_true rfl] at S
  refine S.mono ?_
  rintro e w10 ⟨rfl, hT5⟩
  have hT := then_below hT (then_below hT4 hT5)
  clear S hb hT4 hT5
  go_wp2
  go_ret
  exact ⟨rfl, hT⟩

end Go.Proofs.YtbobfhoimhambaaDoor

/-
  The statement PlaceCounts, walked.
-/
namespace Go.Proofs.YtbobfhoimhambaaDoor
open Go Go.RowKit Go.Shelf

attribute [local go_sem] Oper.semAt_some ext_const

set_option maxRecDepth 100000 in
set_option maxHeartbeats 8000000 in
theorem placeCounts_err {d0 d1 d2 : Int} {b : Bx} (t0 t1 t2 : Bool) (w : World) (he : (errP d0 d1 d2 b t0 t1 t2 != 0) = true) :
    Calls Tryd.prog 4 #[A3 d0 d1 d2, P9 b t0 t1 t2] w fun e W' => e = .returned (.bool true) ∧ Below w.heap.size w W' := by
  have HS : Hid (∀ w, Calls Tryd.prog 14 #[A3 d0 d1 d2, P9 b t0 t1 t2] w fun e W' => e = .returned (.tuple #[.slice none 0 0, .slice none 0 0, I (errP d0 d1 d2 b t0 t1 t2)]) ∧ Below w.heap.size w W') := fun w => sets_err t0 t1 t2 w he
  have HC : Hid (∀ w, Calls Tryd.prog 13 #[A3 d0 d1 d2, P9 b t0 t1 t2] w fun e W' => e = .returned (I (errP d0 d1 d2 b t0 t1 t2)) ∧ Below w.heap.size w W') := fun w => pcheck_calls d0 d1 d2 b t0 t1 t2 w
  generalize errP d0 d1 d2 b t0 t1 t2 = er at *
  go_enter Tryd.func4, Tryd.ntmps4
  go_wp2_with fail
  obtain ⟨W, hW, hB0, b0, b1⟩ := two_start w #[I d0, I d1, I d2] (C9 b t0 t1 t2) 27 33
  rw [hW]
  clear hW
  refine (aliveP_calls _).mono ?_
  rintro e w1 ⟨rfl, hT⟩
  obtain ⟨c0, c1, c2, hz⟩ := b0.three hT
  obtain ⟨⟨x0, x1, x2⟩, ⟨x3, x4, x5⟩, ⟨x6, x7, x8⟩, hz1⟩ := b1.nine hT
  go_wp2_with fail
  refine (HS.out _).mono ?_
  rintro e w2 ⟨rfl, hT2⟩
  have hT := then_below hT hT2
  clear hT2 c0 c1 c2 hz x0 x1 x2 x3 x4 x5 x6 x7 x8 hz1
  obtain ⟨c0, c1, c2, hz⟩ := b0.three hT
  obtain ⟨⟨x0, x1, x2⟩, ⟨x3, x4, x5⟩, ⟨x6, x7, x8⟩, hz1⟩ := b1.nine hT
  go_wp2_with fail
  refine (HC.out _).mono ?_
  rintro e w3 ⟨rfl, hT3⟩
  go_wp2
  go_ret
  exact ⟨by simp, then_below hB0 (then_below hT hT3)⟩

set_option maxRecDepth 100000 in
set_option maxHeartbeats 8000000 in
theorem placeCounts_ok {d0 d1 d2 : Int} {b : Bx} {t0 t1 t2 : Bool} (w : World) (hTab : TabOk w) (hm : mayD d0 d1 d2) (hp : mayP d0 d1 d2 b t0 t1 t2) :
    Calls Tryd.prog 4 #[A3 d0 d1 d2, P9 b t0 t1 t2] w fun e W' => e = .returned (.bool true) ∧ Below w.heap.size w W' := by
  have hN := N_bd hm
  have HS : Hid (∀ w, Calls Tryd.prog 14 #[A3 d0 d1 d2, P9 b t0 t1 t2] w fun e W' => ∃ u v, e = .returned (.tuple #[u, v, I 0]) ∧ SetR W' w.heap.size u (midW d0 d1 d2 b) ∧ SetR W' w.heap.size v (cabsW d0 d1 d2 b t0 t1 t2) ∧ Below w.heap.size w W') := fun w => sets_ok w hm hp
  have HM : Hid (∀ w, Calls Tryd.prog 15 #[A3 d0 d1 d2] w fun e W' => e = .returned (.tuple #[I (d0 * d1 * d2), I 0]) ∧ Below w.heap.size w W') := fun w => many_yes w hm
  have HB : Hid (∀ w, Calls Tryd.prog 16 #[A3 d0 d1 d2, B6 b] w fun e W' => ∃ v, e = .returned (.tuple #[v, I 0]) ∧ Lst W' w.heap.size v (nodesB d0 d1 d2 b) ∧ Below w.heap.size w W') := fun w => bnodes_ok w hm hp.1
  have HL1 : Hid (∀ w u b1, TabOk w → SetR w b1 u (midW d0 d1 d2 b) → Calls Tryd.prog 17 #[I (d0 * d1 * d2), u] w fun e W' => ∃ v, e = .returned (.tuple #[v, I 0]) ∧ Lst W' w.heap.size v (nodesB d0 d1 d2 b) ∧ Below w.heap.size w W') := fun w u b1 ht hu => by
    have := list_calls w ht hu.wds (d0 * d1 * d2)
    rw [mid_list hm] at this
    rw [show errAll (d0 * d1 * d2) [midW d0 d1 d2 b] = 0 from setOf_err (by omega) (by omega) _] at this
    exact this
  have HL2 : Hid (∀ w u b1, TabOk w → SetR w b1 u (cabsW d0 d1 d2 b t0 t1 t2) → Calls Tryd.prog 17 #[I (3 * (d0 * d1 * d2)), u] w fun e W' => ∃ v, e = .returned (.tuple #[v, I 0]) ∧ Lst W' w.heap.size v (listR (3 * (d0 * d1 * d2)) (cabsW d0 d1 d2 b t0 t1 t2)) ∧ Below w.heap.size w W') := fun w u b1 ht hu => by
    have := list_calls w ht hu.wds (3 * (d0 * d1 * d2))
    rw [show errAll (3 * (d0 * d1 * d2)) [cabsW d0 d1 d2 b t0 t1 t2] = 0 from setOf_err (by omega) (by omega) _] at this
    exact this
  have hw := counts_want (t0 := t0) (t1 := t1) (t2 := t2) hm hp.1
  have hXl := nodesB_len hm b
  have z0 := (mayB_at hp.1 0).1
  have z1 := (mayB_at hp.1 1).1
  have z2 := (mayB_at hp.1 2).1
  simp only [sAt, dimAt] at z0 z1 z2
  have hdim := hm
  obtain ⟨⟨_, g0⟩, ⟨_, g1⟩, _, g2⟩ := hdim
  obtain ⟨q0, hq0⟩ : ∃ q, q = ((nodesB d0 d1 d2 b).length : Int) / b.a := ⟨_, rfl⟩
  obtain ⟨q1, hq1⟩ : ∃ q, q = ((nodesB d0 d1 d2 b).length : Int) / b.b := ⟨_, rfl⟩
  obtain ⟨q2, hq2⟩ : ∃ q, q = ((nodesB d0 d1 d2 b).length : Int) / b.c := ⟨_, rfl⟩
  unfold wantK at hw
  simp only [sAt, dimAt, tK] at hw
  rw [← hq0, ← hq1, ← hq2] at hw
  have y0 : 0 ≤ q0 ∧ q0 ≤ 4096 := by
    rw [hq0]
    have := Int.ediv_le_self (b := b.a) (a := ((nodesB d0 d1 d2 b).length : Int)) (by omega)
    exact ⟨Int.ediv_nonneg (by omega) (by omega), by omega⟩
  have y1 : 0 ≤ q1 ∧ q1 ≤ 4096 := by
    rw [hq1]
    have := Int.ediv_le_self (b := b.b) (a := ((nodesB d0 d1 d2 b).length : Int)) (by omega)
    exact ⟨Int.ediv_nonneg (by omega) (by omega), by omega⟩
  have y2 : 0 ≤ q2 ∧ q2 ≤ 4096 := by
    rw [hq2]
    have := Int.ediv_le_self (b := b.c) (a := ((nodesB d0 d1 d2 b).length : Int)) (by omega)
    exact ⟨Int.ediv_nonneg (by omega) (by omega), by omega⟩
  have r0 := runS_bd (r := d0) (s := b.a) t0 z0
  have r1 := runS_bd (r := d1) (s := b.b) t1 z1
  have r2 := runS_bd (r := d2) (s := b.c) t2 z2
  have m0 : 0 ≤ q0 * runS d0 b.a t0 ∧ q0 * runS d0 b.a t0 ≤ 4096 * 16 := mul_bd y0.1 y0.2 r0.1 (by omega)
  have m1 : 0 ≤ q1 * runS d1 b.b t1 ∧ q1 * runS d1 b.b t1 ≤ 4096 * 16 := mul_bd y1.1 y1.2 r1.1 (by omega)
  have m2 : 0 ≤ q2 * runS d2 b.c t2 ∧ q2 * runS d2 b.c t2 ≤ 4096 * 16 := mul_bd y2.1 y2.2 r2.1 (by omega)
  have V0 : Hid (∀ r, r = runS d0 b.a t0 → wrap64 (wrap64 (wrap64 (((nodesB d0 d1 d2 b).length : Int) / b.a) * r)) = q0 * runS d0 b.a t0) := fun r e => by
    rw [← hq0, e, wrap_in q0 (by omega), wrap_in (q0 * runS d0 b.a t0) (by omega), wrap_in (q0 * runS d0 b.a t0) (by omega)]
  have V1 : Hid (∀ r, r = runS d1 b.b t1 → wrap64 (q0 * runS d0 b.a t0 + wrap64 (wrap64 (((nodesB d0 d1 d2 b).length : Int) / b.b) * r)) = q0 * runS d0 b.a t0 + q1 * runS d1 b.b t1) := fun r e => by
    rw [← hq1, e, wrap_in q1 (by omega), wrap_in (q1 * runS d1 b.b t1) (by omega), wrap_in _ (by omega)]
  have V2 : Hid (∀ r, r = runS d2 b.c t2 → wrap64 (q0 * runS d0 b.a t0 + q1 * runS d1 b.b t1 + wrap64 (wrap64 (((nodesB d0 d1 d2 b).length : Int) / b.c) * r)) = q0 * runS d0 b.a t0 + q1 * runS d1 b.b t1 + q2 * runS d2 b.c t2) := fun r e => by
    rw [← hq2, e, wrap_in q2 (by omega), wrap_in (q2 * runS d2 b.c t2) (by omega), wrap_in _ (by omega)]
  clear hq0 hq1 hq2
  clear r0 r1 r2
  generalize q0 * runS d0 b.a t0 = a0 at *
  generalize q1 * runS d1 b.b t1 = a1 at *
  generalize q2 * runS d2 b.c t2 = a2 at *
  clear y0 y1 y2 q0 q1 q2
  have HW : Hid (((listR (3 * (d0 * d1 * d2)) (cabsW d0 d1 d2 b t0 t1 t2)).length : Int) = a0 + a1 + a2) := hw
  clear hw
  clear hp
  have HMD : Hid (mayD d0 d1 d2) := hm
  clear hm
  generalize listR (3 * (d0 * d1 * d2)) (cabsW d0 d1 d2 b t0 t1 t2) = Y at *
  generalize cabsW d0 d1 d2 b t0 t1 t2 = S2 at *
  generalize midW d0 d1 d2 b = S1 at *
  generalize nodesB d0 d1 d2 b = X at *
  generalize d0 * d1 * d2 = N at *
  go_enter Tryd.func4, Tryd.ntmps4
  go_wp2_with fail
  obtain ⟨W, hW, hB0, b0, b1⟩ := two_start w #[I d0, I d1, I d2] (C9 b t0 t1 t2) 27 33
  rw [hW]
  clear hW
  refine (aliveP_calls _).mono ?_
  rintro e w1 ⟨rfl, hT⟩
  obtain ⟨c0, c1, c2, hz⟩ := b0.three hT
  obtain ⟨⟨x0, x1, x2⟩, ⟨x3, x4, x5⟩, ⟨x6, x7, x8⟩, hz1⟩ := b1.nine hT
  go_wp2_with fail
  refine (HS.out _).mono ?_
  rintro e w2 ⟨u, v, rfl, hu, hv, hT2⟩
  have hT := then_below hT hT2
  clear hT2 c0 c1 c2 hz x0 x1 x2 x3 x4 x5 x6 x7 x8 hz1
  obtain ⟨c0, c1, c2, hz⟩ := b0.three hT
  go_wp2_with fail
  refine (HM.out _).mono ?_
  rintro e w3 ⟨rfl, hT2⟩
  have hu := hu.later hT2
  have hv := hv.later hT2
  have hT := then_below hT hT2
  clear hT2 c0 c1 c2 hz
  obtain ⟨c0, c1, c2, hz⟩ := b0.three hT
  obtain ⟨⟨x0, x1, x2⟩, ⟨x3, x4, x5⟩, ⟨x6, x7, x8⟩, hz1⟩ := b1.nine hT
  go_wp2_with fail
  refine (HB.out _).mono ?_
  rintro e w4 ⟨l, rfl, hl, hT2⟩
  have hu := hu.later hT2
  have hv := hv.later hT2
  have hT := then_below hT hT2
  clear hT2 c0 c1 c2 hz x0 x1 x2 x3 x4 x5 x6 x7 x8 hz1
  go_wp2_with fail
  refine (HL1.out _ _ _ (hTab.later (then_below hB0 hT)) hu).mono ?_
  rintro e w5 ⟨l2, rfl, hl2, hT2⟩
  have hl := hl.later hT2
  have hv := hv.later hT2
  have hT := then_below hT hT2
  clear hT2 hu
  go_wp2_with fail
  refine (HL2.out _ _ _ (hTab.later (then_below hB0 hT)) hv).mono ?_
  rintro e w6 ⟨l3, rfl, hl3, hT2⟩
  have hl := hl.later hT2
  have hl2 := hl2.later hT2
  have hT := then_below hT hT2
  clear hT2 hv
  obtain ⟨c0, c1, c2, hz⟩ := b0.three hT
  obtain ⟨⟨x0, x1, x2⟩, ⟨x3, x4, x5⟩, ⟨x6, x7, x8⟩, hz1⟩ := b1.nine hT
  have KI := ints_calls w6 hl hl2 hXl
  rw [decide_eq_true rfl] at KI
  obtain ⟨aX, cX, eX, hvw⟩ := hl.view
  subst eX
  obtain ⟨aY, cY, eY, hvw'⟩ := hl3.view
  subst eY
  clear hvw hvw' hl hl2 hl3
  have hB := then_below hB0 hT
  clear hT hB0 b0 b1
  go_wp2_with fail
  go_loopw [17, 18] (fun n i wr => ((i = .int .i64 0 ∧ n = I 0) ∨ (i = .int .i64 1 ∧ n = I a0) ∨ (i = .int .i64 2 ∧ n = I (a0 + a1)) ∨ (i = .int .i64 3 ∧ n = I (a0 + a1 + a2))) ∧ wr = w6) (fun _ i _ => 3 - (intOf i).toNat)
  case atStart => exact ⟨.inl ⟨rfl, rfl⟩, rfl⟩
  case round =>
    obtain ⟨hi, rfl⟩ := hrel
    rcases hi with ⟨rfl, rfl⟩ | ⟨rfl, rfl⟩ | ⟨rfl, rfl⟩ | ⟨rfl, rfl⟩
    · cases t0
      · go_wp2
        go_roundw
        case rel => exact ⟨.inr (.inl ⟨rfl, congrArg (Value.int .i64) (V0.out _ rfl)⟩), by trivial⟩
        case measure => simp [intOf]
      · go_wp2
        go_roundw
        case rel => exact ⟨.inr (.inl ⟨rfl, congrArg (Value.int .i64) (V0.out _ rfl)⟩), by trivial⟩
        case measure => simp [intOf]
    · cases t1
      · go_wp2
        go_roundw
        case rel => exact ⟨.inr (.inr (.inl ⟨rfl, congrArg (Value.int .i64) (V1.out _ rfl)⟩)), by trivial⟩
        case measure => simp [intOf]
      · go_wp2
        go_roundw
        case rel => exact ⟨.inr (.inr (.inl ⟨rfl, congrArg (Value.int .i64) (V1.out _ rfl)⟩)), by trivial⟩
        case measure => simp [intOf]
    · cases t2
      · go_wp2
        go_roundw
        case rel => exact ⟨.inr (.inr (.inr ⟨rfl, congrArg (Value.int .i64) (V2.out _ rfl)⟩)), by trivial⟩
        case measure => simp [intOf]
      · go_wp2
        go_roundw
        case rel => exact ⟨.inr (.inr (.inr ⟨rfl, congrArg (Value.int .i64) (V2.out _ rfl)⟩)), by trivial⟩
        case measure => simp [intOf]
    · go_wp2_with fail
      refine KI.mono ?_
      rintro e w7 ⟨rfl, hT7⟩
      have HQ : ((Y.length : Int) == a0 + a1 + a2) = true := by rw [HW.out]; simp
      go_wp2
      go_ret
      exact ⟨rfl, then_below hB hT7⟩

theorem placeCounts_walk (d0 d1 d2 : Int) (b : Bx) (t0 t1 t2 : Bool) (w : World) (hTab : TabOk w) :
    Calls Tryd.prog 4 #[A3 d0 d1 d2, P9 b t0 t1 t2] w fun e W' => e = .returned (.bool true) ∧ Below w.heap.size w W' := by
  rcases errP_cases d0 d1 d2 b t0 t1 t2 with ⟨hm, hp, _⟩ | ⟨he, _⟩
  · exact placeCounts_ok w hTab hm hp
  · exact placeCounts_err t0 t1 t2 w (by rcases he with h | h <;> rw [h] <;> rfl)

end Go.Proofs.YtbobfhoimhambaaDoor

/-
  How the arguments of this seat's statements are opened: whole numbers, and rows of three of them.
-/
namespace Go.Proofs.YtbobfhoimhambaaDoor
open Go.ChangeShapes Go.WideShapes Go.ChangeAt Go.RowKit

theorem own : ownKnob Tryd.prog.godebug = none := by kernel_rfl
theorem laidOut : laidOutB Tryd.prog = true := by kernel_rfl

theorem list3 {α : Type} (l : List α) (h : (⟨l⟩ : Array α).size = 3) : ∃ a b c, l = [a, b, c] := by
  match l, h with
  | [a, b, c], _ => exact ⟨a, b, c, rfl⟩

/-- A row of three whole numbers, by value. -/
theorem open_arr3 {P : Program} {w : World} {H : Type} {enc : TypeId × Value → H} {r : Reach} {b0 base : Nat} {spare : Nat → Bool} {held : Bool} {t e : TypeId} {v : Value} {d : DataW H} {p : List MemPlace}
    (ht : P.underlying t = some (.array 3 e)) (he : P.underlying e = some (.int .i64)) (hce : P.cellsOf e = 1) (hct : P.cellsOf t = 3)
    (hv : Value.okWide P w r b0 t v) (h : DataW.Trod enc P w base spare held t v d p) :
    ∃ a b c : Int, v = A3 a b c ∧ (Lit.int .i64 a).wf = true ∧ (Lit.int .i64 b).wf = true ∧ (Lit.int .i64 c).wf = true := by
  obtain ⟨cs, rfl, hsz, _⟩ : ∃ cs, v = .agg cs ∧ cs.size = P.cellsOf t ∧ Row.okWide P w r b0 t cs := by
    simpa [Value.okWide, ht] using hv
  rw [hct] at hsz
  obtain ⟨l⟩ := cs
  obtain ⟨c0, c1, c2, rfl⟩ := list3 l hsz
  obtain ⟨fuel, hf⟩ := h
  obtain ⟨y0, y1, y2, m, hx, hy0, hy1, hy2⟩ := trod_array3 ht hce hf
  obtain ⟨x0, e0, rfl, w0⟩ := DataW.trod_int he hy0
  obtain ⟨x1, e1, rfl, w1⟩ := DataW.trod_int he hy1
  obtain ⟨x2, e2, rfl, w2⟩ := DataW.trod_int he hy2
  simp at e0 e1 e2
  subst e0 e1 e2
  exact ⟨x0, x1, x2, rfl, w0, w1, w2⟩

theorem open_num {P : Program} {w : World} {H : Type} {enc : TypeId × Value → H} {r : Reach} {b0 base : Nat} {spare : Nat → Bool} {held : Bool} {t : TypeId} {k : IntKind} {v : Value} {d : DataW H} {p : List MemPlace}
    (ht : P.underlying t = some (.int k)) (hv : Value.okWide P w r b0 t v) (h : DataW.Trod enc P w base spare held t v d p) :
    ∃ a : Int, v = .int k a ∧ (Lit.int k a).wf = true := by
  obtain ⟨x, rfl, rfl, rfl, wx⟩ := open_int ht hv h
  exact ⟨x, rfl, wx⟩

theorem trod_lt' {H : Type} {enc : TypeId × Value → H} {P : Program} {W : World} {t : TypeId} {v : Value} {d : DataW H} {ps : List MemPlace} {sp : Nat → Bool} (h : DataW.Trod enc P W 0 sp true t v d ps) : ∀ x ∈ ps, x.block < W.heap.size := by
  obtain ⟨m, hm⟩ := h; exact DataW.trod_lt m _ _ _ hm

end Go.Proofs.YtbobfhoimhambaaDoor
