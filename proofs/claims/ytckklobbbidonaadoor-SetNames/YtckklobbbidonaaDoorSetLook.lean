/-
  The calls of set, and of the document's answer, that only look: whether a number is in a set, whether a set may be.
-/
import Derived.Test.YtckklobbbidonaaDoorWords
namespace Go.Proofs.YtckklobbbidonaaDoor
open Go Go.RowKit Go.Shelf

set_option maxRecDepth 100000 in
set_option maxHeartbeats 2000000 in
theorem there_calls {v : Value} {ws : List Nat} (w : World) (h : Wds w v ws) (k : Nat) (hk : k ≤ 9223372036854775807) :
    Calls Tryd.prog 33 #[v, I k] w fun e W' => e = .returned (.bool (hasW ws k)) ∧ W' = w := by
  obtain ⟨ao, cap, rfl, hv⟩ := h.view
  have hw := h.word (k / 64)
  by_cases hlt : k / 64 < ws.length
  · obtain ⟨g, off, rfl, hg, hc⟩ := hv _ hlt
    have hb := bit_of _ (k % 64) hw
    have e : hasW ws k = (ws.getD (k / 64) 0).testBit (k % 64) := rfl
    rw [e, ← hb]
    clear hb e hv h
    generalize ws.getD (k / 64) 0 = x at *
    go_enter Tryd.func33, Tryd.ntmps33
    go_wp2
    go_ret
    exact ⟨rfl, rfl⟩
  · rw [hasW_out (Nat.not_lt.1 hlt)]
    clear hv h hw
    have hlt' : ¬ ((k : Int) / 64 < ws.length) := by omega
    go_enter Tryd.func33, Tryd.ntmps33
    go_wp2
    go_ret
    exact ⟨rfl, rfl⟩

theorem there_neg {ao : Option Addr} {len cap : Nat} (w : World) (k : Int) (hk : k < 0) :
    Calls Tryd.prog 33 #[.slice ao len cap, I k] w fun e W' => e = .returned (.bool false) ∧ W' = w := by
  go_enter Tryd.func33, Tryd.ntmps33
  go_wp2
  go_ret
  exact ⟨rfl, rfl⟩

theorem mayN_calls (n : Int) (w : World) : Calls Tryd.prog 29 #[I n] w fun e W' => e = .returned (.bool (okN n)) ∧ W' = w := by
  obtain ⟨ans, hans⟩ : ∃ ans, ans = okN n := ⟨_, rfl⟩
  rw [← hans]
  unfold okN at hans
  by_cases h1 : 1 ≤ n
  · by_cases h2 : n ≤ 12288
    · have : ans = true := by simp [hans, h1, h2]
      subst this
      clear hans
      go_enter Tryd.func29, Tryd.ntmps29
      go_wp2
      go_ret
      exact ⟨rfl, rfl⟩
    · have : ans = false := by simp [hans, h2]
      subst this
      clear hans
      go_enter Tryd.func29, Tryd.ntmps29
      go_wp2
      go_ret
      exact ⟨rfl, rfl⟩
  · have : ans = false := by simp [hans, h1]
    subst this
    clear hans
    go_enter Tryd.func29, Tryd.ntmps29
    go_wp2
    go_ret
    exact ⟨rfl, rfl⟩

theorem words_calls (n : Nat) (w : World) (hn : n ≤ 12288) : Calls Tryd.prog 28 #[I n] w fun e W' => e = .returned (I ((n + 63) / 64 : Nat)) ∧ W' = w := by
  go_enter Tryd.func28, Tryd.ntmps28
  go_wp2
  go_ret
  exact ⟨by go_num, rfl⟩

set_option maxRecDepth 100000 in
set_option maxHeartbeats 2000000 in
theorem mayBe_calls {v : Value} {ws : List Nat} (w : World) (h : Wds w v ws) (n : Nat) (h1 : 1 ≤ n) (h2 : n ≤ 12288) :
    Calls Tryd.prog 39 #[I n, v] w fun e W' => e = .returned (.bool (mayS n ws)) ∧ W' = w := by
  obtain ⟨ao, cap, rfl, hv⟩ := h.view
  have hwc := fun w => words_calls n w h2
  by_cases hl : ws.length = (n + 63) / 64
  · by_cases h0 : n % 64 = 0
    · rw [mayS_full hl h0]
      rw [← hl] at hwc
      clear hv h hl
      generalize ws.length = l at *
      have h0' : (n : Int) % 64 = 0 := by omega
      go_enter Tryd.func39, Tryd.ntmps39
      go_wp2_with fail
      refine (hwc _).mono ?_
      rintro e w1 ⟨rfl, rfl⟩
      go_wp2
      go_ret
      exact ⟨rfl, rfl⟩
    · rw [mayS_last (h.word _) h1 hl h0]
      have h0' : ¬ ((n : Int) % 64 = 0) := by omega
      have hlt : ws.length - 1 < ws.length := by omega
      obtain ⟨g, off, rfl, hg, hc⟩ := hv _ hlt
      have hw := h.word (ws.length - 1)
      generalize ws.getD (ws.length - 1) 0 = x at *
      have hub : ws.length ≤ 200 := by omega
      rw [← hl] at hwc
      clear hv h hl
      generalize ws.length = l at *
      have hpos : 1 ≤ l := by omega
      go_enter Tryd.func39, Tryd.ntmps39
      go_wp2_with fail
      refine (hwc _).mono ?_
      rintro e w1 ⟨rfl, rfl⟩
      go_wp2
      go_ret
      refine ⟨?_, rfl⟩
      show Ending.returned (Value.bool (((n : Int) % 64 == 0) || _)) = _
      rw [show ((n : Int) % 64 == 0) = false from by simpa using h0']
      rfl
  · rw [mayS_len hl]
    clear hv h
    generalize (n + 63) / 64 = l at *
    have hl' : ¬ ((ws.length : Int) = (l : Int)) := by omega
    go_enter Tryd.func39, Tryd.ntmps39
    go_wp2_with fail
    refine (hwc _).mono ?_
    rintro e w1 ⟨rfl, rfl⟩
    go_wp2
    go_ret
    exact ⟨rfl, rfl⟩

set_option maxRecDepth 100000 in
set_option maxHeartbeats 2000000 in
theorem check_calls {v : Value} {vs : List Value} {wss : List (List Nat)} (w : World) (hv : Sl w v vs) (hl : vs.length = wss.length) (hs : vs.length ≤ 2) (hw : ∀ i, i < vs.length → Wds w (vs.getD i undef) (wss.getD i [])) (n : Int) :
    Calls Tryd.prog 26 #[I n, v] w fun e W' => e = .returned (I (errAll n wss)) ∧ W' = w := by
  obtain ⟨ao, cap, rfl, hv⟩ := hv
  by_cases hn : 1 ≤ n ∧ n ≤ 12288
  · obtain ⟨m, rfl⟩ : ∃ m : Nat, n = m := ⟨n.toNat, by omega⟩
    obtain ⟨h1, h2⟩ := hn
    have HV : Hid (∀ k, k < vs.length → ∃ g off, ao = some ⟨g, off, none⟩ ∧ g < w.heap.size ∧ w.cell? ⟨g, off + k, none⟩ = vs[k]?) := hv
    have HW : Hid (∀ i, i < vs.length → Wds w (vs.getD i undef) (wss.getD i [])) := hw
    obtain ⟨ans, hans⟩ : ∃ ans, ans = errAll m wss := ⟨_, rfl⟩
    rw [← hans]
    have HS : Hid (ans = errAll m wss) := hans
    clear hans hv hw
    go_enter Tryd.func26, Tryd.ntmps26
    go_wp2
    go_loopw [15] (fun i wr => ∃ k : Nat, k ≤ vs.length ∧ i = .int .i64 k ∧ Hid (∀ j, j < k → mayS m (wss.getD j []) = true) ∧ wr = w) (fun i _ => vs.length - (intOf i).toNat)
    case atStart => exact ⟨0, by omega, rfl, fun j hj => by omega, rfl⟩
    case round =>
      obtain ⟨k, hk, rfl, HT, rfl⟩ := hrel
      by_cases hlt : (k : Int) < (vs.length : Int)
      · have hkx : k < vs.length := by omega
        obtain ⟨g, off, rfl, hg, hc⟩ := HV.out k hkx
        have hW := HW.out k hkx
        rw [show vs[k]? = some (vs.getD k undef) by simp [hkx]] at hc
        have HX : Hid (Wds wr (vs.getD k undef) (wss.getD k [])) := hW
        have H8 : Hid (mayS m (wss.getD k []) = false → ans = 8) := fun hm => by rw [HS.out]; exact errAll_not ⟨by omega, by omega⟩ (by omega) hm
        have H0 : Hid (mayS m (wss.getD k []) = true → ∀ j, j < k + 1 → mayS m (wss.getD j []) = true) := fun hm j hj => by
          rcases Nat.lt_succ_iff_lt_or_eq.1 hj with hj | rfl
          · exact HT.out j hj
          · exact hm
        clear hW
        obtain ⟨u, hu⟩ : ∃ u, u = vs.getD k undef := ⟨_, rfl⟩
        rw [← hu] at hc HX
        have hone : u.oneCell' = true := by
          obtain ⟨ao', cap', e, _⟩ := HX.out.view
          rw [e]; rfl
        clear hu
        go_wp2_with fail
        refine (mayBe_calls _ HX.out m (by omega) (by omega)).mono ?_
        rintro e w1 ⟨rfl, rfl⟩
        cases hm : mayS m (wss.getD k [])
        · have E := H8.out hm
          subst E
          go_wp2
          go_ret
          exact ⟨rfl, rfl⟩
        · go_wp2
          go_roundw
          case rel => exact ⟨k + 1, by omega, by go_num, H0.out hm, by trivial⟩
          case measure => simp [intOf]; omega
      · have E : ans = 0 := by
          rw [HS.out]
          exact errAll_ok ⟨by omega, by omega⟩ (fun j hj => HT.out j (by omega))
        subst E
        go_wp2
        go_ret
        exact ⟨rfl, rfl⟩
  · rw [errAll_bad hn]
    clear hv hw
    by_cases h1 : 1 ≤ n
    · have h2 : ¬ n ≤ 12288 := fun h => hn ⟨h1, h⟩
      clear hn
      go_enter Tryd.func26, Tryd.ntmps26
      go_wp2
      go_ret
      exact ⟨rfl, rfl⟩
    · clear hn
      go_enter Tryd.func26, Tryd.ntmps26
      go_wp2
      go_ret
      exact ⟨rfl, rfl⟩

set_option maxRecDepth 100000 in
set_option maxHeartbeats 2000000 in
theorem may_calls {v : Value} {ws : List Nat} (w : World) (h : Wds w v ws) (n : Nat) (h1 : 1 ≤ n) (h2 : n ≤ 12288) :
    Calls Tryd.prog 34 #[I n, v] w fun e W' => e = .returned (.bool (mayS n ws)) ∧ W' = w := by
  have HW : Hid (Wds w v ws) := h
  obtain ⟨ao, cap, rfl, _⟩ := h.view
  obtain ⟨ans, hans⟩ : ∃ ans, ans = mayS n ws := ⟨_, rfl⟩
  rw [← hans]
  have HS : Hid (ans = mayS n ws) := hans
  clear hans h
  go_enter Tryd.func34, Tryd.ntmps34
  go_wp2
  go_loopw [5] (fun i wr => ∃ m : Nat, m ≤ (n + 63) / 64 ∧ i = .int .i64 m ∧ wr = w) (fun i _ => (n + 63) / 64 - (intOf i).toNat)
  case atStart => exact ⟨0, by omega, rfl, rfl⟩
  case round =>
    obtain ⟨m, hm, rfl, rfl⟩ := hrel
    by_cases hlt : (64 : Int) * (m : Int) < (n : Int)
    · go_wp2
      go_roundw
      case rel => exact ⟨m + 1, by omega, by go_num, by trivial⟩
      case measure => simp [intOf]; omega
    · have em : m = (n + 63) / 64 := by omega
      by_cases hl : m = ws.length
      · have EM : Hid (m = (n + 63) / 64) := em
        clear em
        subst hl
        go_wp2
        go_loopw [6] (fun i wr' => ∃ k : Nat, n ≤ k ∧ k ≤ 64 * ws.length ∧ i = .int .i64 k ∧ Hid (∀ j, n ≤ j → j < k → hasW ws j = false) ∧ wr' = wr) (fun i _ => 64 * ws.length - (intOf i).toNat)
        case atStart => exact ⟨n, by omega, by have := EM.out; omega, rfl, fun j h1 h2 => by omega, rfl⟩
        case round =>
          obtain ⟨k, hk1, hk2, rfl, HT, rfl⟩ := hrel
          by_cases hlt2 : (k : Int) < (64 : Int) * (ws.length : Int)
          · go_wp2_with fail
            refine (there_calls _ HW.out k (by omega)).mono ?_
            rintro e w1 ⟨rfl, rfl⟩
            cases hq : hasW ws k
            · have H0 : Hid (∀ j, n ≤ j → j < k + 1 → hasW ws j = false) := fun j h1 h2 => by
                rcases Nat.lt_succ_iff_lt_or_eq.1 h2 with hj | rfl
                · exact HT.out j h1 hj
                · exact hq
              go_wp2
              go_roundw
              case rel => exact ⟨k + 1, by omega, by omega, by go_num, H0, by trivial⟩
              case measure => simp [intOf]; omega
            · have E : ans = false := by rw [HS.out]; exact mayS_no hk1 hq
              subst E
              go_wp2
              go_ret
              exact ⟨rfl, rfl⟩
          · have E : ans = true := by
              rw [HS.out]
              refine mayS_iff.2 ⟨EM.out, fun j hj => ?_⟩
              by_cases hj2 : j < k
              · exact HT.out j hj hj2
              · exact hasW_past (by omega)
            subst E
            go_wp2
            go_ret
            exact ⟨rfl, rfl⟩
      · have E : ans = false := by rw [HS.out]; exact mayS_len (by omega)
        have hl' : ¬ ((ws.length : Int) = (m : Int)) := by omega
        clear em hl
        subst E
        go_wp2
        go_ret
        exact ⟨rfl, rfl⟩

theorem rcheck_calls {v : Value} {ws : List Nat} (w : World) (h : Wds w v ws) (n : Int) :
    Calls Tryd.prog 18 #[I n, v] w fun e W' => e = .returned (I (errAll n [ws])) ∧ W' = w := by
  cases hn : okN n
  · rw [errAll_bad (by simpa [okN] using hn)]
    go_enter Tryd.func18, Tryd.ntmps18
    go_wp2_with fail
    refine (mayN_calls n _).mono ?_
    rintro e w1 ⟨rfl, rfl⟩
    rw [hn]
    go_wp2
    go_ret
    exact ⟨rfl, rfl⟩
  · have hn' : 1 ≤ n ∧ n ≤ 12288 := by simpa [okN] using hn
    obtain ⟨m, rfl⟩ : ∃ m : Nat, n = m := ⟨n.toNat, by omega⟩
    cases hm : mayS m ws
    · rw [errAll_not (k := 0) (by omega) (by simp) (by simpa using hm)]
      go_enter Tryd.func18, Tryd.ntmps18
      go_wp2_with fail
      refine (mayN_calls m _).mono ?_
      rintro e w1 ⟨rfl, rfl⟩
      rw [hn]
      go_wp2_with fail
      refine (may_calls _ h m (by omega) (by omega)).mono ?_
      rintro e w1 ⟨rfl, rfl⟩
      rw [hm]
      go_wp2
      go_ret
      exact ⟨rfl, rfl⟩
    · rw [errAll_ok (by omega) (fun k hk => by obtain rfl : k = 0 := by simpa using hk
                                               simpa using hm)]
      go_enter Tryd.func18, Tryd.ntmps18
      go_wp2_with fail
      refine (mayN_calls m _).mono ?_
      rintro e w1 ⟨rfl, rfl⟩
      rw [hn]
      go_wp2_with fail
      refine (may_calls _ h m (by omega) (by omega)).mono ?_
      rintro e w1 ⟨rfl, rfl⟩
      rw [hm]
      go_wp2
      go_ret
      exact ⟨rfl, rfl⟩

end Go.Proofs.YtckklobbbidonaaDoor
