/-
  The document's answers of one set (tidehallref03.List, Has, Many); whether two lists are the same (tidehallref02.Ints).
-/
import Derived.Test.YtckklobbbidonaaDoorSetCalls
namespace Go.Proofs.YtckklobbbidonaaDoor
open Go Go.RowKit Go.Shelf

attribute [local go_sem] Oper.semAt_some ext_const

theorem rlist_calls {v : Value} {ws : List Nat} (w : World) (h : Wds w v ws) (n : Int) :
    Calls Tryd.prog 14 #[I n, v] w fun e W' => ∃ u, e = .returned (.tuple #[u, I (errAll n [ws])]) ∧ Lst W' w.heap.size u (listR n ws) ∧ Below w.heap.size w W' := by
  have C := rcheck_calls w h n
  obtain ⟨ans, hans⟩ : ∃ ans, ans = listR n ws := ⟨_, rfl⟩
  obtain ⟨er, her⟩ : ∃ er, er = errAll n [ws] := ⟨_, rfl⟩
  rw [← hans]
  rw [← her] at C ⊢
  by_cases h0 : er = 0
  · have he := her.symm.trans h0
    obtain ⟨h1, h2, hm⟩ := err_one he
    have hl := (mayS_iff.1 hm).1
    have A := all_calls w h (by omega)
    rw [show ofN (numsW ws) = ans by rw [hans, listR, if_pos he]] at A
    clear hans her he hm hl
    subst h0
    go_enter Tryd.func14, Tryd.ntmps14
    go_wp2_with fail
    refine C.mono ?_
    rintro e w1 ⟨rfl, hw⟩
    subst hw
    go_wp2_with fail
    refine A.mono ?_
    rintro e w2 ⟨u, rfl, hL, hB⟩
    go_wp2
    go_ret2
    exact ⟨_, rfl, hL, hB⟩
  · have E : ans = [] := by rw [hans, listR, if_neg (fun e => h0 (her.trans e))]
    subst E
    clear hans her
    go_enter Tryd.func14, Tryd.ntmps14
    go_wp2_with fail
    refine C.mono ?_
    rintro e w1 ⟨rfl, hw⟩
    subst hw
    go_wp2
    go_ret2
    exact ⟨_, rfl, Lst.nil _ _, Below.refl _ _⟩

theorem rhas_calls {v : Value} {ws : List Nat} (w : World) (h : Wds w v ws) (n k : Int) (hk : k ≤ 9223372036854775807) :
    Calls Tryd.prog 16 #[I n, v, I k] w fun e W' => e = .returned (.tuple #[.bool (hasR n ws k), I (errAll n [ws])]) ∧ W' = w := by
  have C := rcheck_calls w h n
  obtain ⟨ans, hans⟩ : ∃ ans, ans = hasR n ws k := ⟨_, rfl⟩
  obtain ⟨er, her⟩ : ∃ er, er = errAll n [ws] := ⟨_, rfl⟩
  rw [← hans]
  rw [← her] at C ⊢
  by_cases h0 : er = 0
  · have he := her.symm.trans h0
    have T : Calls Tryd.prog 33 #[v, I k] w fun e W' => e = .returned (.bool ans) ∧ W' = w := by
      by_cases hk0 : k < 0
      · rw [hans, hasR_neg hk0]
        obtain ⟨ao, cap, rfl, _⟩ := h.view
        exact there_neg w k hk0
      · obtain ⟨m, rfl⟩ : ∃ m : Nat, k = m := ⟨k.toNat, by omega⟩
        rw [hans, hasR_in he]
        exact there_calls w h m (by omega)
    clear hans her he
    subst h0
    go_enter Tryd.func16, Tryd.ntmps16
    go_wp2_with fail
    refine C.mono ?_
    rintro e w1 ⟨rfl, hw⟩
    subst hw
    go_wp2_with fail
    refine T.mono ?_
    rintro e w2 ⟨rfl, hw⟩
    subst hw
    go_wp2
    go_ret2
    exact ⟨rfl, rfl⟩
  · have E : ans = false := by rw [hans]; exact hasR_err (fun e => h0 (her.trans e)) k
    subst E
    clear hans her
    go_enter Tryd.func16, Tryd.ntmps16
    go_wp2_with fail
    refine C.mono ?_
    rintro e w1 ⟨rfl, hw⟩
    subst hw
    go_wp2
    go_ret2
    exact ⟨rfl, rfl⟩

theorem rmany_calls {v : Value} {ws : List Nat} (w : World) (h : Wds w v ws) (n : Int) :
    Calls Tryd.prog 17 #[I n, v] w fun e W' => e = .returned (.tuple #[I (manyR n ws), I (errAll n [ws])]) ∧ Below w.heap.size w W' := by
  have C := rcheck_calls w h n
  obtain ⟨ans, hans⟩ : ∃ ans, ans = manyR n ws := ⟨_, rfl⟩
  obtain ⟨er, her⟩ : ∃ er, er = errAll n [ws] := ⟨_, rfl⟩
  rw [← hans]
  rw [← her] at C ⊢
  by_cases h0 : er = 0
  · have he := her.symm.trans h0
    obtain ⟨h1, h2, hm⟩ := err_one he
    have hl := (mayS_iff.1 hm).1
    have A := all_calls w h (by omega)
    have hln : (ofN (numsW ws)).length = ans := by rw [ofN_len, hans, manyR, if_pos he]; exact list_cnt ws ws.length
    clear hans her he hm hl
    subst h0
    go_enter Tryd.func17, Tryd.ntmps17
    go_wp2_with fail
    refine C.mono ?_
    rintro e w1 ⟨rfl, hw⟩
    subst hw
    go_wp2_with fail
    refine A.mono ?_
    rintro e w2 ⟨u, rfl, hL, hB⟩
    obtain ⟨ao, cap, rfl, _⟩ := hL.view
    rw [hln]
    clear hL hln
    go_wp2
    go_ret2
    exact ⟨rfl, hB⟩
  · have E : ans = 0 := by rw [hans, manyR, if_neg (fun e => h0 (her.trans e))]
    subst E
    clear hans her
    go_enter Tryd.func17, Tryd.ntmps17
    go_wp2_with fail
    refine C.mono ?_
    rintro e w1 ⟨rfl, hw⟩
    subst hw
    go_wp2
    go_ret2
    exact ⟨rfl, Below.refl _ _⟩

set_option maxRecDepth 100000 in
set_option maxHeartbeats 2000000 in
theorem ints2_calls {xs ys : List Int} {u v : Value} (w : World) (hu : Its w u xs) (hv : Its w v ys) (hx : xs.length ≤ 100000) :
    Calls Tryd.prog 20 #[u, v] w fun e W' => e = .returned (.bool (decide (xs = ys))) ∧ Below w.heap.size w W' := by
  have hmx : Tryd.prog.follows .mixedOrders = true := by kernel_rfl
  obtain ⟨ao, cap, rfl, hA⟩ := hu.view
  obtain ⟨ao', cap', rfl, hB⟩ := hv.view
  have HA : Hid (∀ k, k < xs.length → ∃ g off, ao = some ⟨g, off, none⟩ ∧ g < w.heap.size ∧ w.cell? ⟨g, off + k, none⟩ = some (I (xs.getD k 0))) := hA
  have HB : Hid (∀ k, k < ys.length → ∃ g off, ao' = some ⟨g, off, none⟩ ∧ g < w.heap.size ∧ w.cell? ⟨g, off + k, none⟩ = some (I (ys.getD k 0))) := hB
  clear hu hv hA hB
  obtain ⟨ans, hans⟩ : ∃ ans, ans = decide (xs = ys) := ⟨_, rfl⟩
  rw [← hans]
  have HS : Hid (ans = decide (xs = ys)) := hans
  clear hans
  by_cases hl : (xs.length : Int) = ys.length
  · have hl' : ys.length = xs.length := by omega
    clear hl
    rw [hl'] at HB ⊢
    have HL : Hid (ys.length = xs.length) := hl'
    clear hl'
    go_enter Tryd.func20, Tryd.ntmps20
    go_wp2
    go_loopw [5] (fun i wr => ∃ k : Nat, k ≤ xs.length ∧ i = .int .i64 k ∧ Hid (xs.take k = ys.take k) ∧ Below w.heap.size w wr) (fun i _ => xs.length - (intOf i).toNat)
    case atStart => exact ⟨0, by omega, rfl, by show _ = _; simp, Below.refl _ _⟩
    case round =>
      obtain ⟨k, hk, rfl, HT, hT⟩ := hrel
      by_cases hlt : (k : Int) < (xs.length : Int)
      · have hkx : k < xs.length := by omega
        obtain ⟨g, off, rfl, hg, hc⟩ := HA.out k hkx
        obtain ⟨g', off', rfl, hg', hc'⟩ := HB.out k hkx
        have e0 : ∀ x : Ext wr, x.wd.cell? ⟨g, off + k, none⟩ = some (I (xs.getD k 0)) := fun x => ((below_ext hT x).cell (p := ⟨g, off + k, none⟩) hg).trans hc
        have e1 : ∀ x : Ext wr, x.wd.cell? ⟨g', off' + k, none⟩ = some (I (ys.getD k 0)) := fun x => ((below_ext hT x).cell (p := ⟨g', off' + k, none⟩) hg').trans hc'
        have HE : Hid (xs.getD k 0 = ys.getD k 0 → xs.take (k + 1) = ys.take (k + 1)) := take_eq_succ hkx (by have := HL.out; omega) HT.out
        have HD : Hid (xs.getD k 0 ≠ ys.getD k 0 → ans = false) := fun hne => by rw [HS.out, decide_eq_false_iff_not]; intro he; exact hne (by rw [he])
        clear hg hg' hc hc'
        generalize xs.getD k 0 = x at e0 HE HD
        generalize ys.getD k 0 = y at e1 HE HD
        cases hq : (x != y)
        · go_wp2
          refine wp_region_look hmx (by kernel_rfl) ?_
          repeat (go_big_quiet_step (fail))
          refine wpQuiet_nil ?_
          intro v
          go_wp2
          go_roundw
          case rel => exact ⟨k + 1, by omega, by go_num, HE.out (by simpa using hq), then_below hT v.le⟩
          case measure => simp [intOf]; omega
        · go_wp2
          refine wp_region_look hmx (by kernel_rfl) ?_
          repeat (go_big_quiet_step (fail))
          refine wpQuiet_nil ?_
          intro v
          go_wp2
          go_ret
          exact ⟨by rw [HD.out (by simpa using hq)]; rfl, then_below hT v.le⟩
      · have E : ans = true := by
          rw [HS.out, decide_eq_true_eq]
          have h1 := HT.out
          rwa [List.take_of_length_le (by omega), List.take_of_length_le (by have := HL.out; omega)] at h1
        subst E
        go_wp2
        go_ret
        exact ⟨rfl, hT⟩
  · have E : ans = false := by rw [HS.out, decide_eq_false_iff_not]; intro he; rw [he] at hl; exact hl rfl
    subst E
    go_enter Tryd.func20, Tryd.ntmps20
    go_wp2
    go_ret
    exact ⟨rfl, Below.refl _ _⟩

end Go.Proofs.YtckklobbbidonaaDoor
