/-
  The document's answers of one set (tidehallref03.List, Has, Many); whether two lists are the same (tidehallref02.Ints).
-/
import Derived.Test.YtbobfhoimhambaaDoorPart13
import Derived.Test.YtbobfhoimhambaaDoorPart12
import Derived.Test.YtbobfhoimhambaaDoorPlaceWalks
import Derived.Test.YtbobfhoimhambaaDoorPart3
namespace Go.Proofs.YtbobfhoimhambaaDoor
open Go Go.RowKit Go.Shelf

attribute [local go_sem] Oper.semAt_some ext_const

set_option maxRecDepth 100000 in
set_option maxHeartbeats 2000000 in
theorem ints2_calls {xs ys : List Int} {u v : Value} (w : World) (hu : Its w u xs) (hv : Its w v ys) (hx : xs.length ≤ 100000) :
    Calls Tryd.prog 12 #[u, v] w fun e W' => e = .returned (.bool (decide (xs = ys))) ∧ Below w.heap.size w W' := by
  have hmx : Tryd.prog.follows .mixedOrders = true := by kernel_rfl
  obtain ⟨ao, cap, rfl, hA⟩ := hu.view
  obtain ⟨ao', cap', rfl, hB⟩ := hv.view
  have HA : Hid (∀ k, k < xs.length → ∃ g off, ao = some ⟨g, off, none⟩ ∧ g < w.heap.size ∧ w.cell? ⟨g, off + k, none⟩ = some (I (xs.getD k 0))) := hA
  have HB : Hid (∀ k, k < ys.length → ∃ g off, ao' = some ⟨g, off, none⟩ ∧ g < w.heap.size ∧ w.cell? ⟨g, off + k, none⟩ = some (I (ys.getD k 0))) := hB
  clear hu hv hA hB
  obtain ⟨ans, hans⟩ : ∃ ans, ans = decide (xs = ys) := ⟨_, rfl⟩
  rw [← hans]
  have HS : Hid (ans = decide (xs = ys)) := hans
  clear hans
  by_cases hl : (xs.length : Int) = ys.length
  · have hl' : ys.length = xs.length := by omega
    clear hl
    rw [hl'] at HB ⊢
    have HL : Hid (ys.length = xs.length) := hl'
    clear hl'
    go_enter Tryd.func12, Tryd.ntmps12
    go_wp2
    go_loopw [5] (fun i wr => ∃ k : Nat, k ≤ xs.length ∧ i = .int .i64 k ∧ Hid (xs.take k = ys.take k) ∧ Below w.heap.size w wr) (fun i _ => xs.length - (intOf i).toNat)
    case atStart => exact ⟨0, by omega, rfl, by show _ = _; simp, Below.refl _ _⟩
    case round =>
      obtain ⟨k, hk, rfl, HT, hT⟩ := hrel
      by_cases hlt : (k : Int) < (xs.length : Int)
      · have hkx : k < xs.length := by omega
        obtain ⟨g, off, rfl, hg, hc⟩ := HA.out k hkx
        obtain ⟨g', off', rfl, hg', hc'⟩ := HB.out k hkx
        have e0 : ∀ x : Ext wr, x.wd.cell? ⟨g, off + k, none⟩ = some (I (xs.getD k 0)) := fun x => ((below_ext hT x).cell (p := ⟨g, off + k, none⟩) hg).trans hc
        have e1 : ∀ x : Ext wr, x.wd.cell? ⟨g', off' + k, none⟩ = some (I (ys.getD k 0)) := fun x => ((below_ext hT x).cell (p := ⟨g', off' + k, none⟩) hg').trans hc'
        have HE : Hid (xs.getD k 0 = ys.getD k 0 → xs.take (k + 1) = ys.take (k + 1)) := take_eq_succ hkx (by have := HL.out; omega) HT.out
        have HD : Hid (xs.getD k 0 ≠ ys.getD k 0 → ans = false) := fun hne => by rw [HS.out, decide_eq_false_iff_not]; intro he; exact hne (by rw [he])
        clear hg hg' hc hc'
        generalize xs.getD k 0 = x at e0 HE HD
        generalize ys.getD k 0 = y at e1 HE HD
        cases hq : (x != y)
        · go_wp2
          refine wp_region_look hmx (by kernel_rfl) ?_
          repeat (go_big_quiet_step (fail))
          refine wpQuiet_nil ?_
          intro v
          go_wp2
          go_roundw
          case rel => exact ⟨k + 1, by omega, by go_num, HE.out (by simpa using hq), then_below hT v.le⟩
          case measure => simp [intOf]; omega
        · go_wp2
          refine wp_region_look hmx (by kernel_rfl) ?_
          repeat (go_big_quiet_step (fail))
          refine wpQuiet_nil ?_
          intro v
          go_wp2
          go_ret
          exact ⟨by rw [HD.out (by simpa using hq)]; rfl, then_below hT v.le⟩
      · have E : ans = true := by
          rw [HS.out, decide_eq_true_eq]
          have h1 := HT.out
          rwa [List.take_of_length_le (by omega), List.take_of_length_le (by have := HL.out; omega)] at h1
        subst E
        go_wp2
        go_ret
        exact ⟨rfl, hT⟩
  · have E : ans = false := by rw [HS.out, decide_eq_false_iff_not]; intro he; rw [he] at hl; exact hl rfl
    subst E
    go_enter Tryd.func12, Tryd.ntmps12
    go_wp2
    go_ret
    exact ⟨rfl, Below.refl _ _⟩

end Go.Proofs.YtbobfhoimhambaaDoor

/-
  The chapter's first examples (the statements' 'alive').
-/
namespace Go.Proofs.YtbobfhoimhambaaDoor
open Go Go.RowKit Go.Shelf

theorem alive_err : errAll 70 [[8, 32]] = 0 := by decide +kernel
theorem alive_list : listR 70 [8, 32] = [3, 69] := by decide +kernel
theorem alive_of : ofErr 70 [3, 69, 3] = 0 := by decide +kernel
theorem alive_ok : ofOk 70 [3, 69, 3] = true := by decide +kernel
theorem alive_bits : ∀ k, k < 128 → hasW [8, 32] k = inL [3, 69, 3] k := by decide +kernel
theorem alive_set {ws : List Nat} (h : OfIs 70 [3, 69, 3] ws) : ws = [8, 32] := by
  refine (h.yes alive_ok).ext ⟨rfl, fun x hx => ?_, fun k => ?_⟩
  · simp at hx
    rcases hx with rfl | rfl <;> decide
  · by_cases hk : k < 128
    · exact alive_bits k hk
    · rw [hasW_past (by simp; omega)]
      unfold inL
      symm
      rw [Bool.eq_false_iff]
      intro hc
      simp at hc
      omega

theorem its_of_blk {W : World} {g : Nat} {xs : List Int} {t : TypeId} (h : Blk W g t (xs.map I).toArray) (cap : Nat) : Its W (.slice (some ⟨g, 0, none⟩) xs.length cap) xs := by
  have := Sl.blk h cap
  rw [List.length_map] at this
  exact this
theorem wds_of_blk {W : World} {g : Nat} {ws : List Nat} {t : TypeId} (hw : ∀ x ∈ ws, x < 18446744073709551616) (h : Blk W g t (ws.map U).toArray) (cap : Nat) : Wds W (.slice (some ⟨g, 0, none⟩) ws.length cap) ws := by
  have := Sl.blk h cap
  rw [List.length_map] at this
  exact ⟨hw, this⟩

end Go.Proofs.YtbobfhoimhambaaDoor

/-
  What the statements of layer 6 share: the chapter's dimensions, a place of theirs, and the chapter's first examples.
-/
namespace Go.Proofs.YtbobfhoimhambaaDoor
open Go Go.RowKit Go.Shelf

attribute [local go_sem] Oper.semAt_some ext_const

set_option maxRecDepth 100000 in
theorem pline_calls (w : World) : Calls Tryd.prog 8 #[] w fun e W' => e = .returned (A3 4 1 1) ∧ Below w.heap.size w W' := by
  go_enter Tryd.func8, Tryd.ntmps8
  go_wp2
  have b0 := Blk.new w 27 #[I 4, I 1, I 1]
  have hB := (Below.refl w.heap.size w).alloc (Nat.le_refl _) (.cells #[I 4, I 1, I 1] 27)
  obtain ⟨j0, j1, j2, _⟩ := b0.three (Below.refl _ _)
  generalize w.alloc (.cells #[I 4, I 1, I 1] 27) = W at *
  exact bodyPost_ret (v := A3 4 1 1) (by simp [results, Tryd.f8, go_sem, j0, j1, j2]) rfl ⟨rfl, hB⟩

/-- A place of the chapter's. -/
abbrev bOf (base size : Int) : Bx := ⟨base, 0, 0, size, 1, 1⟩
set_option maxRecDepth 100000 in
theorem pof_calls (base size : Int) (t : Bool) (w : World) : Calls Tryd.prog 9 #[I base, I size, .bool t] w fun e W' => e = .returned (P9 (bOf base size) t false false) ∧ Below w.heap.size w W' := by
  go_enter Tryd.func9, Tryd.ntmps9
  go_wp2
  have b0 := Blk.new w 33 (C9 (bOf base size) t false false)
  have hB := (Below.refl w.heap.size w).alloc (Nat.le_refl _) (.cells (C9 (bOf base size) t false false) 33)
  obtain ⟨⟨x0, x1, x2⟩, ⟨x3, x4, x5⟩, ⟨x6, x7, x8⟩, hz1⟩ := b0.nine (Below.refl _ _)
  generalize w.alloc (.cells (C9 (bOf base size) t false false) 33) = W at *
  exact bodyPost_ret (v := P9 (bOf base size) t false false) (by simp [results, Tryd.f9, go_sem, x0, x1, x2, x3, x4, x5, x6, x7, x8]) rfl ⟨rfl, hB⟩

theorem line_may : mayD 4 1 1 := (okDB_iff _ _ _).1 (by decide)
theorem mesh32 : mayP 4 1 1 (bOf 3 2) false false false := (mayPB_iff _ _ _ _ _ _ _).1 (by decide)
theorem tor32 : mayP 4 1 1 (bOf 3 2) true false false := (mayPB_iff _ _ _ _ _ _ _).1 (by decide)
theorem mesh12 : mayP 4 1 1 (bOf 1 2) false false false := (mayPB_iff _ _ _ _ _ _ _).1 (by decide)
theorem mid32 : midW 4 1 1 (bOf 3 2) = [9] := by decide +kernel
theorem cab32 : cabsW 4 1 1 (bOf 3 2) false false false = [8] := by decide +kernel
theorem cab32t : cabsW 4 1 1 (bOf 3 2) true false false = [15] := by decide +kernel

set_option maxRecDepth 100000 in
set_option maxHeartbeats 4000000 in
theorem aliveP_calls (w : World) : Calls Tryd.prog 11 #[] w fun e W' => e = .returned (.bool true) ∧ Below w.heap.size w W' := by
  have H1 : Hid (∀ w, Calls Tryd.prog 14 #[A3 4 1 1, P9 (bOf 3 2) false false false] w fun e W' => ∃ u v, e = .returned (.tuple #[u, v, I 0]) ∧ SetR W' w.heap.size u [9] ∧ SetR W' w.heap.size v [8] ∧ Below w.heap.size w W') := fun w => by
    have := sets_ok w line_may mesh32
    rwa [mid32, cab32] at this
  have H2 : Hid (∀ w, Calls Tryd.prog 14 #[A3 4 1 1, P9 (bOf 3 2) true false false] w fun e W' => ∃ u v, e = .returned (.tuple #[u, v, I 0]) ∧ SetR W' w.heap.size u [9] ∧ SetR W' w.heap.size v [15] ∧ Below w.heap.size w W') := fun w => by
    have := sets_ok w line_may tor32
    rwa [mid32, cab32t] at this
  go_enter Tryd.func11, Tryd.ntmps11
  go_wp2_with fail
  refine (pline_calls w).mono ?_
  rintro e w1 ⟨rfl, hT⟩
  go_wp2_with fail
  refine (pof_calls 3 2 false _).mono ?_
  rintro e w2 ⟨rfl, hT2⟩
  have hT := then_below hT hT2
  go_wp2_with fail
  refine (H1.out _).mono ?_
  rintro e w3 ⟨u, v, rfl, hu, hv, hT3⟩
  have hT := then_below hT hT3
  clear hT2 hT3
  go_wp2_with fail
  refine (pline_calls _).mono ?_
  rintro e w4 ⟨rfl, hT4⟩
  have hu := hu.later hT4
  have hv := hv.later hT4
  have hT := then_below hT hT4
  clear hT4
  go_wp2_with fail
  refine (pof_calls 3 2 true _).mono ?_
  rintro e w5 ⟨rfl, hT4⟩
  have hu := hu.later hT4
  have hv := hv.later hT4
  have hT := then_below hT hT4
  clear hT4
  go_wp2_with fail
  refine (H2.out _).mono ?_
  rintro e w6 ⟨u2, v2, rfl, hu2, hv2, hT4⟩
  have hu := hu.later hT4
  have hv := hv.later hT4
  have hT := then_below hT hT4
  clear hT4
  go_wp2_with fail
  have hT4 := (Below.refl _ w6).alloc (Nat.le_refl _) (.cells #[U 9] 59)
  have hb : Blk (w6.alloc (.cells #[U 9] 59)) w6.heap.size 59 (List.map U [9]).toArray := Blk.new w6 _ _
  have S := sameS_calls (xs := [9]) (ys := [9]) (v := .slice (some ⟨w6.heap.size, 0, none⟩) 1 1) _ (hu.wds.later hT4) (wds_of_blk (by intro x hx; simp at hx; subst hx; decide) hb 1) (by simp)
  rw [decide_eq_true rfl] at S
  refine S.mono ?_
  rintro e w7 ⟨rfl, hT5⟩
  have hT := then_below hT (then_below hT4 hT5)
  have hv := hv.later (then_below hT4 hT5)
  have hu2 := hu2.later (then_below hT4 hT5)
  have hv2 := hv2.later (then_below hT4 hT5)
  clear S hb hT4 hT5
  go_wp2_with fail
  have hT4 := (Below.refl _ w7).alloc (Nat.le_refl _) (.cells #[U 8] 59)
  have hb : Blk (w7.alloc (.cells #[U 8] 59)) w7.heap.size 59 (List.map U [8]).toArray := Blk.new w7 _ _
  have S := sameS_calls (xs := [8]) (ys := [8]) (v := .slice (some ⟨w7.heap.size, 0, none⟩) 1 1) _ (hv.wds.later hT4) (wds_of_blk (by intro x hx; simp at hx; subst hx; decide) hb 1) (by simp)
  rw [decide_eq_true rfl] at S
  refine S.mono ?_
  rintro e w8 ⟨rfl, hT5⟩
  have hT := then_below hT (then_below hT4 hT5)
  have hu2 := hu2.later (then_below hT4 hT5)
  have hv2 := hv2.later (then_below hT4 hT5)
  clear S hb hT4 hT5
  go_wp2_with fail
  have hT4 := (Below.refl _ w8).alloc (Nat.le_refl _) (.cells #[U 9] 59)
  have hb : Blk (w8.alloc (.cells #[U 9] 59)) w8.heap.size 59 (List.map U [9]).toArray := Blk.new w8 _ _
  have S := sameS_calls (xs := [9]) (ys := [9]) (v := .slice (some ⟨w8.heap.size, 0, none⟩) 1 1) _ (hu2.wds.later hT4) (wds_of_blk (by intro x hx; simp at hx; subst hx; decide) hb 1) (by simp)
  rw [decide_eq_true rfl] at S
  refine S.mono ?_
  rintro e w9 ⟨rfl, hT5⟩
  have hT := then_below hT (then_below hT4 hT5)
  have hv2 := hv2.later (then_below hT4 hT5)
  clear S hb hT4 hT5
  go_wp2_with fail
  have hT4 := (Below.refl _ w9).alloc (Nat.le_refl _) (.cells #[U 15] 59)
  have hb : Blk (w9.alloc (.cells #[U 15] 59)) w9.heap.size 59 (List.map U [15]).toArray := Blk.new w9 _ _
  have S := sameS_calls (xs := [15]) (ys := [15]) (v := .slice (some ⟨w9.heap.size, 0, none⟩) 1 1) _ (hv2.wds.later hT4) (wds_of_blk (by intro x hx; simp at hx; subst hx; decide) hb 1) (by simp)
  rw [decide_eq_true rfl] at S
  refine S.mono ?_
  rintro e w10 ⟨rfl, hT5⟩
  have hT := then_below hT (then_below hT4 hT5)
  clear S hb hT4 hT5
  go_wp2
  go_ret
  exact ⟨rfl, hT⟩

end Go.Proofs.YtbobfhoimhambaaDoor

/-
  The statement PlacePasses, walked.
-/
namespace Go.Proofs.YtbobfhoimhambaaDoor
open Go Go.RowKit Go.Shelf

attribute [local go_sem] Oper.semAt_some ext_const

set_option maxRecDepth 100000 in
set_option maxHeartbeats 8000000 in
theorem placePasses_err {d0 d1 d2 : Int} {b : Bx} (t0 t1 t2 : Bool) (w : World) (he : (errP d0 d1 d2 b t0 t1 t2 != 0) = true) :
    Calls Tryd.prog 6 #[A3 d0 d1 d2, P9 b t0 t1 t2] w fun e W' => e = .returned (.bool true) ∧ Below w.heap.size w W' := by
  have HS : Hid (∀ w, Calls Tryd.prog 7 #[A3 d0 d1 d2, P9 b t0 t1 t2] w fun e W' => e = .returned (.tuple #[.slice none 0 0, I (errP d0 d1 d2 b t0 t1 t2)]) ∧ Below w.heap.size w W') := fun w => passes_err t0 t1 t2 w he
  generalize errP d0 d1 d2 b t0 t1 t2 = er at *
  go_enter Tryd.func6, Tryd.ntmps6
  go_wp2_with fail
  obtain ⟨W, hW, hB0, b0, b1⟩ := two_start w #[I d0, I d1, I d2] (C9 b t0 t1 t2) 27 33
  rw [hW]
  clear hW
  refine (aliveP_calls _).mono ?_
  rintro e w1 ⟨rfl, hT⟩
  obtain ⟨c0, c1, c2, hz⟩ := b0.three hT
  obtain ⟨⟨x0, x1, x2⟩, ⟨x3, x4, x5⟩, ⟨x6, x7, x8⟩, hz1⟩ := b1.nine hT
  go_wp2_with fail
  refine (HS.out _).mono ?_
  rintro e w2 ⟨rfl, hT2⟩
  go_wp2
  go_ret
  exact ⟨rfl, then_below hB0 (then_below hT hT2)⟩

theorem listB_at {W : World} {base : Nat} {v : Value} {xs : List Int} (h : Lst W base v xs) {k : Nat} (hk : k < xs.length) : ∃ g cap cur, v = .slice (some ⟨g, 0, none⟩) xs.length cap ∧ Blk W g 3 cur ∧ ∀ j, j < xs.length → cur[j]? = some (I (xs.getD j 0)) := by
  obtain ⟨ao, cap, rfl, hv⟩ := h.view
  obtain ⟨g, cur, rfl, hb, _⟩ := hv k hk
  refine ⟨g, cap, cur, rfl, hb, fun j hj => ?_⟩
  obtain ⟨g', cur', e, hb', hc⟩ := hv j hj
  cases e
  have h1 : W.heap[g]? = _ := hb
  have h2 : W.heap[g]? = _ := hb'
  rw [h1] at h2
  cases h2
  exact hc

set_option maxRecDepth 100000 in
set_option maxHeartbeats 8000000 in
theorem placePasses_ok {d0 d1 d2 : Int} {b : Bx} {t0 t1 t2 : Bool} (w : World) (hTab : TabOk w) (hm : mayD d0 d1 d2) (hp : mayP d0 d1 d2 b t0 t1 t2) :
    Calls Tryd.prog 6 #[A3 d0 d1 d2, P9 b t0 t1 t2] w fun e W' => e = .returned (.bool true) ∧ Below w.heap.size w W' := by
  have hmx : Tryd.prog.follows .mixedOrders = true := by kernel_rfl
  have HS : Hid (∀ w, TabOk w → Calls Tryd.prog 7 #[A3 d0 d1 d2, P9 b t0 t1 t2] w fun e W' => ∃ v, e = .returned (.tuple #[v, I 0]) ∧ Lst W' w.heap.size v (passL d0 d1 d2 b t0 t1 t2) ∧ Below w.heap.size w W') := fun w ht => passes_ok w ht hm hp
  have HH : Hid (∀ (j : Nat) w, j < (passL d0 d1 d2 b t0 t1 t2).length → Calls Tryd.prog 22 #[A3 d0 d1 d2, B6 b, I ((passL d0 d1 d2 b t0 t1 t2).getD j 0)] w fun e W' => e = .returned (.tuple #[.bool false, I 0]) ∧ Below w.heap.size w W') := fun j w hj => by
    obtain ⟨h1, h2⟩ := pass_at hj
    have := bhas_ok w hm hp.1 h1
    rwa [h2] at this
  have HR : Hid (∀ j, 0 < j → j < (passL d0 d1 d2 b t0 t1 t2).length → (passL d0 d1 d2 b t0 t1 t2).getD (j - 1) 0 < (passL d0 d1 d2 b t0 t1 t2).getD j 0) := fun j h0 hj => by
    obtain ⟨t, rfl⟩ : ∃ t, j = t + 1 := ⟨j - 1, by omega⟩
    exact pass_rise hj
  have HL : Hid (decide (0 < ((passL d0 d1 d2 b t0 t1 t2).length : Int)) = (someK d0 d1 d2 b t0 t1 t2 0 || someK d0 d1 d2 b t0 t1 t2 1 || someK d0 d1 d2 b t0 t1 t2 2)) := pass_len hm hp.1
  have hXl := passL_len hm b t0 t1 t2
  have HK0 : Hid (someK d0 d1 d2 b t0 t1 t2 0 = (t0 && decide (b.a < d0))) := rfl
  have HK1 : Hid (someK d0 d1 d2 b t0 t1 t2 1 = (t1 && decide (b.b < d1))) := rfl
  have HK2 : Hid (someK d0 d1 d2 b t0 t1 t2 2 = (t2 && decide (b.c < d2))) := rfl
  generalize someK d0 d1 d2 b t0 t1 t2 0 = s0 at *
  generalize someK d0 d1 d2 b t0 t1 t2 1 = s1 at *
  generalize someK d0 d1 d2 b t0 t1 t2 2 = s2 at *
  clear hm hp
  generalize passL d0 d1 d2 b t0 t1 t2 = X at *
  go_enter Tryd.func6, Tryd.ntmps6
  go_wp2_with fail
  obtain ⟨W, hW, hB0, b0, b1⟩ := two_start w #[I d0, I d1, I d2] (C9 b t0 t1 t2) 27 33
  rw [hW]
  clear hW
  refine (aliveP_calls _).mono ?_
  rintro e w1 ⟨rfl, hT⟩
  obtain ⟨c0, c1, c2, hz⟩ := b0.three hT
  obtain ⟨⟨x0, x1, x2⟩, ⟨x3, x4, x5⟩, ⟨x6, x7, x8⟩, hz1⟩ := b1.nine hT
  go_wp2_with fail
  refine (HS.out _ (hTab.later (then_below hB0 hT))).mono ?_
  rintro e w2 ⟨l, rfl, hl, hT2⟩
  have hT := then_below hT hT2
  have g0 := b0.later hT
  have g1 := b1.later hT
  have hB := then_below hB0 hT
  clear hT2 c0 c1 c2 hz x0 x1 x2 x3 x4 x5 x6 x7 x8 hz1 b0 b1 hT hB0
  obtain ⟨aX, cX, eX, hvw⟩ := hl.view
  subst eX
  clear hvw
  go_wp2_with fail
  go_loopw [8, 9] (fun u i wr => ((i = .int .i64 0 ∧ u = .bool false) ∨ (i = .int .i64 1 ∧ u = .bool s0) ∨ (i = .int .i64 2 ∧ u = .bool (s0 || s1)) ∨ (i = .int .i64 3 ∧ u = .bool (s0 || s1 || s2))) ∧ Below w2.heap.size w2 wr) (fun _ i _ => 3 - (intOf i).toNat)
  case atStart => exact ⟨.inl ⟨rfl, rfl⟩, Below.refl _ _⟩
  case round =>
    obtain ⟨hi, hT⟩ := hrel
    have q0 := g0.later hT
    have q1 := g1.later hT
    have e0 := Ext.cell q0 0
    have e1 := Ext.cell q0 1
    have e2 := Ext.cell q0 2
    have f3 := Ext.cell q1 3
    have f4 := Ext.cell q1 4
    have f5 := Ext.cell q1 5
    have f6 := Ext.cell q1 6
    have f7 := Ext.cell q1 7
    have f8 := Ext.cell q1 8
    simp at e0 e1 e2 f3 f4 f5 f6 f7 f8
    rcases hi with ⟨rfl, rfl⟩ | ⟨rfl, rfl⟩ | ⟨rfl, rfl⟩ | ⟨rfl, rfl⟩
    · cases t0
      · have e : s0 = false := by rw [HK0.out]; rfl
        go_wp2_with fail
        refine wp_region_look hmx (by kernel_rfl) ?_
        repeat (go_big_quiet_step (fail))
        refine wpQuiet_nil ?_
        intro x
        have hT := then_below hT x.le
        go_wp2
        go_roundw
        case rel => exact ⟨.inr (.inl ⟨rfl, by rw [e]⟩), hT⟩
        case measure => simp [intOf]
      · cases hq : decide (b.a < d0)
        · have e : s0 = false := by rw [HK0.out, hq]; rfl
          go_wp2_with fail
          refine wp_region_look hmx (by kernel_rfl) ?_
          repeat (go_big_quiet_step (fail))
          refine wpQuiet_nil ?_
          intro x
          have hT := then_below hT x.le
          go_wp2
          go_roundw
          case rel => exact ⟨.inr (.inl ⟨rfl, by rw [e]⟩), hT⟩
          case measure => simp [intOf]
        · have e : s0 = true := by rw [HK0.out, hq]; rfl
          go_wp2_with fail
          refine wp_region_look hmx (by kernel_rfl) ?_
          repeat (go_big_quiet_step (fail))
          refine wpQuiet_nil ?_
          intro x
          have hT := then_below hT x.le
          go_wp2
          go_roundw
          case rel => exact ⟨.inr (.inl ⟨rfl, by rw [e]⟩), hT⟩
          case measure => simp [intOf]
    · obtain ⟨ac, hac⟩ : ∃ ac, ac = s0 := ⟨_, rfl⟩
      rw [← hac]
      have HAC : Hid (ac = s0) := hac
      clear hac
      cases ac
      · cases t1
        · have e : s1 = false := by rw [HK1.out]; rfl
          go_wp2_with fail
          refine wp_region_look hmx (by kernel_rfl) ?_
          repeat (go_big_quiet_step (fail))
          refine wpQuiet_nil ?_
          intro x
          have hT := then_below hT x.le
          go_wp2
          go_roundw
          case rel => exact ⟨.inr (.inr (.inl ⟨rfl, by rw [e]; rfl⟩)), hT⟩
          case measure => simp [intOf]
        · cases hq : decide (b.b < d1)
          · have e : s1 = false := by rw [HK1.out, hq]; rfl
            go_wp2_with fail
            refine wp_region_look hmx (by kernel_rfl) ?_
            repeat (go_big_quiet_step (fail))
            refine wpQuiet_nil ?_
            intro x
            have hT := then_below hT x.le
            go_wp2
            go_roundw
            case rel => exact ⟨.inr (.inr (.inl ⟨rfl, by rw [e]; rfl⟩)), hT⟩
            case measure => simp [intOf]
          · have e : s1 = true := by rw [HK1.out, hq]; rfl
            go_wp2_with fail
            refine wp_region_look hmx (by kernel_rfl) ?_
            repeat (go_big_quiet_step (fail))
            refine wpQuiet_nil ?_
            intro x
            have hT := then_below hT x.le
            go_wp2
            go_roundw
            case rel => exact ⟨.inr (.inr (.inl ⟨rfl, by rw [e]; rfl⟩)), hT⟩
            case measure => simp [intOf]
      · go_wp2_with fail
        refine wp_region_look hmx (by kernel_rfl) ?_
        repeat (go_big_quiet_step (fail))
        refine wpQuiet_nil ?_
        intro x
        have hT := then_below hT x.le
        go_wp2
        go_roundw
        case rel => exact ⟨.inr (.inr (.inl ⟨rfl, rfl⟩)), hT⟩
        case measure => simp [intOf]
    · obtain ⟨ac, hac⟩ : ∃ ac, ac = (s0 || s1) := ⟨_, rfl⟩
      rw [← hac]
      have HAC : Hid (ac = (s0 || s1)) := hac
      clear hac
      cases ac
      · cases t2
        · have e : s2 = false := by rw [HK2.out]; rfl
          go_wp2_with fail
          refine wp_region_look hmx (by kernel_rfl) ?_
          repeat (go_big_quiet_step (fail))
          refine wpQuiet_nil ?_
          intro x
          have hT := then_below hT x.le
          go_wp2
          go_roundw
          case rel => exact ⟨.inr (.inr (.inr ⟨rfl, by rw [e]; rfl⟩)), hT⟩
          case measure => simp [intOf]
        · cases hq : decide (b.c < d2)
          · have e : s2 = false := by rw [HK2.out, hq]; rfl
            go_wp2_with fail
            refine wp_region_look hmx (by kernel_rfl) ?_
            repeat (go_big_quiet_step (fail))
            refine wpQuiet_nil ?_
            intro x
            have hT := then_below hT x.le
            go_wp2
            go_roundw
            case rel => exact ⟨.inr (.inr (.inr ⟨rfl, by rw [e]; rfl⟩)), hT⟩
            case measure => simp [intOf]
          · have e : s2 = true := by rw [HK2.out, hq]; rfl
            go_wp2_with fail
            refine wp_region_look hmx (by kernel_rfl) ?_
            repeat (go_big_quiet_step (fail))
            refine wpQuiet_nil ?_
            intro x
            have hT := then_below hT x.le
            go_wp2
            go_roundw
            case rel => exact ⟨.inr (.inr (.inr ⟨rfl, by rw [e]; rfl⟩)), hT⟩
            case measure => simp [intOf]
      · go_wp2_with fail
        refine wp_region_look hmx (by kernel_rfl) ?_
        repeat (go_big_quiet_step (fail))
        refine wpQuiet_nil ?_
        intro x
        have hT := then_below hT x.le
        go_wp2
        go_roundw
        case rel => exact ⟨.inr (.inr (.inr ⟨rfl, rfl⟩)), hT⟩
        case measure => simp [intOf]
    · clear e0 e1 e2 f3 f4 f5 f6 f7 f8
      rw [← HL.out]
      have hl := hl.later hT
      have hB := then_below hB hT
      clear hT g0 g1 HL
      go_wp2_with fail
      go_loopw [10] (fun i wr' => ∃ j : Nat, j ≤ X.length ∧ i = .int .i64 j ∧ Below wr.heap.size wr wr') (fun i _ => X.length - (intOf i).toNat)
      case atStart => exact ⟨0, by omega, rfl, Below.refl _ _⟩
      case round =>
        obtain ⟨j, hj, rfl, hT⟩ := hrel
        have q0 := q0.later hT
        have q1 := q1.later hT
        by_cases hlt : (j : Int) < (X.length : Int)
        · have hjl : j < X.length := by omega
          obtain ⟨g, cap, cur, eg, hg, hc⟩ := listB_at hl hjl
          simp only [Value.slice.injEq] at eg
          obtain ⟨eg, -, -⟩ := eg
          subst eg
          have e0 := Ext.cell q0 0
          have e1 := Ext.cell q0 1
          have e2 := Ext.cell q0 2
          have f0 := Ext.cell q1 0
          have f1 := Ext.cell q1 1
          have f2 := Ext.cell q1 2
          have f3 := Ext.cell q1 3
          have f4 := Ext.cell q1 4
          have f5 := Ext.cell q1 5
          simp at e0 e1 e2 f0 f1 f2 f3 f4 f5
          have y0 := Ext.cell (hg.later hT) j
          rw [hc j hjl] at y0
          have KH : Hid (∀ w, Calls Tryd.prog 22 #[A3 d0 d1 d2, B6 b, I (X.getD j 0)] w fun e W' => e = .returned (.tuple #[.bool false, I 0]) ∧ Below w.heap.size w W') := fun w => HH.out j w hjl
          by_cases hj0 : j = 0
          · subst hj0
            generalize X.getD 0 0 = y at *
            simp only [Int.natCast_zero] at hlt ⊢
            go_wp2_with fail
            refine wp_region_look hmx (by kernel_rfl) ?_
            repeat (go_big_quiet_step ((go_at_call 22; exact calls_ext (KH.out _))))
            refine wpQuiet_nil ?_
            intro x
            have hT := then_below hT x.le
            clear e0 e1 e2 f0 f1 f2 f3 f4 f5 y0
            generalize x.wd = wx at *
            clear x
            go_wp2_with fail
            refine wp_region_look hmx (by kernel_rfl) ?_
            repeat (go_big_quiet_step (fail))
            refine wpQuiet_nil ?_
            intro x
            have hT := then_below hT x.le
            go_wp2
            go_roundw
            case rel => exact ⟨0 + 1, by omega, by go_num, hT⟩
            case measure => simp [intOf]; omega
          · have hjp : 0 < (j : Int) := by omega
            have hjn : 0 < j := by omega
            have hjd : decide (0 < (j : Int)) = true := decide_eq_true hjp
            have hjd' : decide (0 < j) = true := decide_eq_true hjn
            have hzy := HR.out j hjn hjl
            obtain ⟨t, ht, et⟩ : ∃ t : Nat, (j : Int) - 1 = (t : Int) ∧ j - 1 = t := ⟨j - 1, by omega, rfl⟩
            rw [et] at hzy
            have htl : t < X.length := by omega
            have htl' : (t : Int) < (X.length : Int) := by omega
            have hct := hc t htl
            have hcj := hc j hjl
            clear hc et hj0
            generalize X.getD t 0 = z at *
            generalize X.getD j 0 = y at *
            have hzd : decide (y ≤ z) = false := decide_eq_false (by omega)
            clear hzy
            go_wp2_with fail
            refine wp_region_look hmx (by kernel_rfl) ?_
            repeat (go_big_quiet_step ((go_at_call 22; exact calls_ext (KH.out _))))
            refine wpQuiet_nil ?_
            intro x
            have hT := then_below hT x.le
            have gx := hg.later hT
            clear e0 e1 e2 f0 f1 f2 f3 f4 f5 y0
            generalize x.wd = wx at *
            have y0 := Ext.cell gx j
            rw [hcj] at y0
            have z0 := Ext.cell gx t
            rw [hct] at z0
            clear x
            go_wp2_with fail
            refine wp_region_look hmx (by kernel_rfl) ?_
            repeat (go_big_quiet_step (fail))
            refine wpQuiet_nil ?_
            intro x
            have hT := then_below hT x.le
            go_wp2
            go_roundw
            case rel => exact ⟨j + 1, by omega, by go_num, hT⟩
            case measure => simp [intOf]; omega
        · go_wp2
          go_ret
          exact ⟨by simp, then_below hB hT⟩

theorem placePasses_walk (d0 d1 d2 : Int) (b : Bx) (t0 t1 t2 : Bool) (w : World) (hTab : TabOk w) :
    Calls Tryd.prog 6 #[A3 d0 d1 d2, P9 b t0 t1 t2] w fun e W' => e = .returned (.bool true) ∧ Below w.heap.size w W' := by
  rcases errP_cases d0 d1 d2 b t0 t1 t2 with ⟨hm, hp, _⟩ | ⟨he, _⟩
  · exact placePasses_ok w hTab hm hp
  · exact placePasses_err t0 t1 t2 w (by rcases he with h | h <;> rw [h] <;> rfl)

end Go.Proofs.YtbobfhoimhambaaDoor
