/-
  The calls of one set: set.Check, set.Has, set.Many, set.List; and the document's answers.
-/
import Derived.Test.YtckklobbbidonaaDoorSetBits
import Derived.Test.YtckklobbbidonaaDoorSetJoin
namespace Go.Proofs.YtckklobbbidonaaDoor
open Go Go.RowKit Go.Shelf

theorem check_one {v : Value} {ws : List Nat} (w : World) (h : Wds w v ws) (n : Int) : ∀ W, Blk W w.heap.size 27 #[v] → Below w.heap.size w W →
    Calls Tryd.prog 26 #[I n, .slice (some ⟨w.heap.size, 0, none⟩) 1 1] W fun e W' => e = .returned (I (errAll n [ws])) ∧ W' = W := by
  intro W hW hB
  refine check_calls (vs := [v]) (wss := [ws]) W (Sl.blk hW 1) rfl (by simp) ?_ n
  intro i hi
  match i, hi with
  | 0, _ => exact h.later hB

theorem chk_calls {v : Value} {ws : List Nat} (w : World) (h : Wds w v ws) (n : Int) :
    Calls Tryd.prog 11 #[I n, v] w fun e W' => e = .returned (I (errAll n [ws])) ∧ Below w.heap.size w W' := by
  obtain ⟨ao, cap, rfl, hv⟩ := h.view
  have C := check_one w h n
  generalize errAll n [ws] = er at *
  go_enter Tryd.func11, Tryd.ntmps11
  go_wp2_with fail
  refine (C _ (Blk.new w _ _) ((Below.refl _ w).alloc (Nat.le_refl _) _)).mono ?_
  rintro e w1 ⟨rfl, hw⟩
  have hT := (Below.refl _ w).alloc (Nat.le_refl _) (.cells #[.slice ao ws.length cap] 27)
  rw [← hw] at hT
  clear hw C
  go_wp2
  go_ret
  exact ⟨rfl, hT⟩

/-- Whether a number is in a set. -/
def hasR (n : Int) (ws : List Nat) (k : Int) : Bool := decide (errAll n [ws] = 0) && decide (0 ≤ k) && hasW ws k.toNat
theorem hasR_err {n : Int} {ws : List Nat} (h : errAll n [ws] ≠ 0) (k : Int) : hasR n ws k = false := by simp [hasR, h]
theorem hasR_neg {n : Int} {ws : List Nat} {k : Int} (h : k < 0) : hasR n ws k = false := by
  unfold hasR
  rw [decide_eq_false (by omega : ¬ 0 ≤ k)]
  simp
theorem hasR_in {n : Int} {ws : List Nat} {k : Nat} (h : errAll n [ws] = 0) : hasR n ws k = hasW ws k := by simp [hasR, h]
theorem hasR_far {n : Int} {ws : List Nat} {k : Int} (h : n ≤ k) : hasR n ws k = false := by
  unfold hasR
  by_cases he : errAll n [ws] = 0
  · obtain ⟨h1, h2, hm⟩ := err_one he
    rw [(mayS_iff.1 hm).2 k.toNat (by omega)]
    simp
  · simp [he]

theorem has_calls {v : Value} {ws : List Nat} (w : World) (h : Wds w v ws) (n k : Int) :
    Calls Tryd.prog 15 #[I n, v, I k] w fun e W' => e = .returned (.tuple #[.bool (hasR n ws k), I (errAll n [ws])]) ∧ Below w.heap.size w W' := by
  obtain ⟨ao, cap, rfl, hv⟩ := h.view
  have C := check_one w h n
  obtain ⟨ans, hans⟩ : ∃ ans, ans = hasR n ws k := ⟨_, rfl⟩
  obtain ⟨er, her⟩ : ∃ er, er = errAll n [ws] := ⟨_, rfl⟩
  rw [← hans]
  rw [← her] at C ⊢
  by_cases h0 : er = 0
  · have he := her.symm.trans h0
    obtain ⟨h1, h2, hm⟩ := err_one he
    by_cases hk : 0 ≤ k ∧ k < n
    · obtain ⟨hk0, hkn⟩ := hk
      obtain ⟨m, rfl⟩ : ∃ m : Nat, k = m := ⟨k.toNat, by omega⟩
      have hl := (mayS_iff.1 hm).1
      have hml : m / 64 < ws.length := by omega
      obtain ⟨g, off, rfl, hg, hc⟩ := hv _ hml
      have hx := h.word (m / 64)
      have hb := bit_of _ (m % 64) hx
      have e : ans = (ws.getD (m / 64) 0).testBit (m % 64) := by rw [hans, hasR_in he]; rfl
      have HA : Hid (ans = (bits .and .u64 ((ws.getD (m / 64) 0 : Nat) / 2 ^ (m % 64)) 1 == 1)) := by rw [e]; exact hb.symm
      have hmi : (m : Int) / 64 < (ws.length : Int) := by omega
      clear hb e hv h hans her he hl hm
      generalize ws.getD (m / 64) 0 = x at *
      subst h0
      go_enter Tryd.func15, Tryd.ntmps15
      go_wp2_with fail
      refine (C _ (Blk.new w _ _) ((Below.refl _ w).alloc (Nat.le_refl _) _)).mono ?_
      rintro e w1 ⟨rfl, hw⟩
      have hT := (Below.refl _ w).alloc (Nat.le_refl _) (.cells #[.slice (some ⟨g, off, none⟩) ws.length cap] 27)
      rw [← hw] at hT
      have hc1 := (hT.cell (p := ⟨g, off + m / 64, none⟩) hg).trans hc
      clear hw C hc
      go_wp2
      go_ret2
      exact ⟨by rw [HA.out]; rfl, hT⟩
    · have E : ans = false := by
        rw [hans]
        by_cases hk0 : k < 0
        · exact hasR_neg hk0
        · exact hasR_far (by omega)
      subst E
      clear hans her he hm
      subst h0
      by_cases hk0 : k < 0
      · go_enter Tryd.func15, Tryd.ntmps15
        go_wp2_with fail
        refine (C _ (Blk.new w _ _) ((Below.refl _ w).alloc (Nat.le_refl _) _)).mono ?_
        rintro e w1 ⟨rfl, hw⟩
        have hT := (Below.refl _ w).alloc (Nat.le_refl _) (.cells #[.slice ao ws.length cap] 27)
        rw [← hw] at hT
        clear hw C
        go_wp2
        go_ret2
        exact ⟨rfl, hT⟩
      · have hkn : n ≤ k := by omega
        clear hk
        go_enter Tryd.func15, Tryd.ntmps15
        go_wp2_with fail
        refine (C _ (Blk.new w _ _) ((Below.refl _ w).alloc (Nat.le_refl _) _)).mono ?_
        rintro e w1 ⟨rfl, hw⟩
        have hT := (Below.refl _ w).alloc (Nat.le_refl _) (.cells #[.slice ao ws.length cap] 27)
        rw [← hw] at hT
        clear hw C
        go_wp2
        go_ret2
        exact ⟨rfl, hT⟩
  · have E : ans = false := by rw [hans]; exact hasR_err (fun e => h0 (her.trans e)) k
    subst E
    clear hans her
    go_enter Tryd.func15, Tryd.ntmps15
    go_wp2_with fail
    refine (C _ (Blk.new w _ _) ((Below.refl _ w).alloc (Nat.le_refl _) _)).mono ?_
    rintro e w1 ⟨rfl, hw⟩
    have hT := (Below.refl _ w).alloc (Nat.le_refl _) (.cells #[.slice ao ws.length cap] 27)
    rw [← hw] at hT
    clear hw C
    go_wp2
    go_ret2
    exact ⟨rfl, hT⟩

/-- How many numbers a set has. -/
def manyR (n : Int) (ws : List Nat) : Nat := if errAll n [ws] = 0 then manyS ws else 0
theorem manyn_calls {v : Value} {ws : List Nat} (w : World) (h : Wds w v ws) (n : Int) :
    Calls Tryd.prog 8 #[I n, v] w fun e W' => e = .returned (.tuple #[I (manyR n ws), I (errAll n [ws])]) ∧ Below w.heap.size w W' := by
  obtain ⟨ao, cap, rfl, hv⟩ := h.view
  have C := check_one w h n
  obtain ⟨ans, hans⟩ : ∃ ans, ans = manyR n ws := ⟨_, rfl⟩
  obtain ⟨er, her⟩ : ∃ er, er = errAll n [ws] := ⟨_, rfl⟩
  rw [← hans]
  rw [← her] at C ⊢
  by_cases h0 : er = 0
  · have he := her.symm.trans h0
    obtain ⟨h1, h2, hm⟩ := err_one he
    have hl := (mayS_iff.1 hm).1
    have M := fun W (hB : Below w.heap.size w W) => many_calls W (h.later hB) (by omega)
    rw [show manyS ws = ans by rw [hans, manyR, if_pos he]] at M
    clear hans her he hm hl
    subst h0
    go_enter Tryd.func8, Tryd.ntmps8
    go_wp2_with fail
    refine (C _ (Blk.new w _ _) ((Below.refl _ w).alloc (Nat.le_refl _) _)).mono ?_
    rintro e w1 ⟨rfl, hw⟩
    have hT := (Below.refl _ w).alloc (Nat.le_refl _) (.cells #[.slice ao ws.length cap] 27)
    rw [← hw] at hT
    clear hw C
    go_wp2_with fail
    refine (M _ hT).mono ?_
    rintro e w2 ⟨rfl, hw⟩
    subst hw
    go_wp2
    go_ret2
    exact ⟨rfl, hT⟩
  · have E : ans = 0 := by rw [hans, manyR, if_neg (fun e => h0 (her.trans e))]
    subst E
    clear hans her
    go_enter Tryd.func8, Tryd.ntmps8
    go_wp2_with fail
    refine (C _ (Blk.new w _ _) ((Below.refl _ w).alloc (Nat.le_refl _) _)).mono ?_
    rintro e w1 ⟨rfl, hw⟩
    have hT := (Below.refl _ w).alloc (Nat.le_refl _) (.cells #[.slice ao ws.length cap] 27)
    rw [← hw] at hT
    clear hw C
    go_wp2
    go_ret2
    exact ⟨rfl, hT⟩

/-- A set's numbers. -/
def listR (n : Int) (ws : List Nat) : List Int := if errAll n [ws] = 0 then ofN (numsW ws) else []
set_option maxRecDepth 100000 in
set_option maxHeartbeats 4000000 in
theorem list_calls {v : Value} {ws : List Nat} (w : World) (hTab : TabOk w) (h : Wds w v ws) (n : Int) :
    Calls Tryd.prog 13 #[I n, v] w fun e W' => ∃ u, e = .returned (.tuple #[u, I (errAll n [ws])]) ∧ Lst W' w.heap.size u (listR n ws) ∧ Below w.heap.size w W' := by
  obtain ⟨ao, cap, rfl, hv⟩ := h.view
  have C := check_one w h n
  have HH : Hid (Wds w (.slice ao ws.length cap) ws) := h
  obtain ⟨ans, hans⟩ : ∃ ans, ans = listR n ws := ⟨_, rfl⟩
  obtain ⟨er, her⟩ : ∃ er, er = errAll n [ws] := ⟨_, rfl⟩
  rw [← hans]
  rw [← her] at C ⊢
  by_cases h0 : er = 0
  · have he := her.symm.trans h0
    obtain ⟨h1, h2, hm⟩ := err_one he
    have hl := (mayS_iff.1 hm).1
    have hl2 : ws.length ≤ 192 := by omega
    have M := fun W (hB : Below w.heap.size w W) => many_calls W (h.later hB) (by omega)
    have hml : manyS ws ≤ 64 * ws.length := cnt_le ws ws.length
    generalize manyS ws = mm at *
    have HA : Hid (ans = ofN (listTo ws (64 * ws.length))) := by rw [hans, listR, if_pos he]; exact rfl
    have HV : Hid (∀ k, k < ws.length → ∃ g off, ao = some ⟨g, off, none⟩ ∧ g < w.heap.size ∧ w.cell? ⟨g, off + k, none⟩ = some (U (ws.getD k 0))) := hv
    have HW : Hid (∀ k, ws.getD k 0 < 18446744073709551616) := h.word
    have hsz := hTab.lt
    clear hans her he hm hl hv h
    subst h0
    go_enter Tryd.func13, Tryd.ntmps13
    go_wp2_with fail
    refine (C _ (Blk.new w _ _) ((Below.refl _ w).alloc (Nat.le_refl _) _)).mono ?_
    rintro e w1 ⟨rfl, hw⟩
    have hT := (Below.refl _ w).alloc (Nat.le_refl _) (.cells #[.slice ao ws.length cap] 27)
    rw [← hw] at hT
    clear hw C
    go_wp2_with fail
    refine (M _ hT).mono ?_
    rintro e w2 ⟨rfl, hw⟩
    subst hw
    go_wp2_with (at_make; refine wpList_mk (base := w.heap.size) rfl _ _ rfl mm rfl rfl (by omega) (by omega) hT.size ?_; intro v3 w3 hL3 hT3)
    have hT := hT.trans hT3
    clear hT3
    go_wp2
    go_loopw [7, 22] (fun s i wr => ∃ k : Nat, k ≤ ws.length ∧ i = .int .i64 k ∧ Lst wr w.heap.size s (ofN (listTo ws (64 * k))) ∧ Below w.heap.size w wr) (fun s i _ => ws.length - (intOf i).toNat)
    case atStart => exact ⟨0, by omega, rfl, hL3, hT⟩
    case round =>
      clear hL3 hT
      obtain ⟨k, hk, rfl, hL, hT⟩ := hrel
      by_cases hlt : (k : Int) < (ws.length : Int)
      · obtain ⟨g, off, rfl, hg, hc⟩ := HV.out k (by omega)
        have hc1 := (hT.cell (p := ⟨g, off + k, none⟩) hg).trans hc
        have hx := HW.out k
        have HS : Hid (ofN (listTo ws (64 * (k + 1))) = ofN (listTo ws (64 * k)) ++ sh (64 * k) (ws.getD k 0)) := list_sh ws k
        have AD := add_calls (64 * k) (ws.getD k 0) wr hL (hTab.below hT hsz) hT.size hsz (by rw [ofN_len]; have := listTo_len ws (64 * k); omega) (by omega) hx
        generalize ofN (listTo ws (64 * k)) = xs at *
        rw [show ((64 * k : Nat) : Int) = (k : Int) * 64 by omega] at AD
        generalize sh (64 * k) (ws.getD k 0) = ys at *
        generalize ws.getD k 0 = x at *
        clear hc
        go_wp2_with fail
        refine AD.mono ?_
        rintro e w4 ⟨u, rfl, hL4, hT4⟩
        go_wp2
        go_roundw
        case rel => exact ⟨k + 1, by omega, by go_num, by rw [HS.out]; exact hL4, hT.trans hT4⟩
        case measure => simp [intOf]; omega
      · have e : k = ws.length := by omega
        subst e
        rw [← HA.out] at hL
        go_wp2
        go_ret2
        exact ⟨_, rfl, hL, hT⟩
  · have E : ans = [] := by rw [hans, listR, if_neg (fun e => h0 (her.trans e))]
    subst E
    clear hans her
    go_enter Tryd.func13, Tryd.ntmps13
    go_wp2_with fail
    refine (C _ (Blk.new w _ _) ((Below.refl _ w).alloc (Nat.le_refl _) _)).mono ?_
    rintro e w1 ⟨rfl, hw⟩
    have hT := (Below.refl _ w).alloc (Nat.le_refl _) (.cells #[.slice ao ws.length cap] 27)
    rw [← hw] at hT
    clear hw C
    go_wp2
    go_ret2
    exact ⟨_, rfl, Lst.nil _ _, hT⟩

end Go.Proofs.YtckklobbbidonaaDoor
