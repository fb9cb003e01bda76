/-
  The calls of set, and of the document's answer, that only look: whether a number is in a set, whether a set may be.
-/
import Derived.Test.YtjmfdpilmljppaaPart8
import Derived.Laws.MakeOwn
namespace Go.Proofs.Ytjmfdpilmljppaa
open Go Go.RowKit Go.Shelf

set_option maxRecDepth 100000 in
set_option maxHeartbeats 2000000 in
theorem there_calls {v : Value} {ws : List Nat} (w : World) (h : Wds w v ws) (k : Nat) (hk : k ≤ 9223372036854775807) :
    Calls Try.prog 66 #[v, I k] w fun e W' => e = .returned (.bool (hasW ws k)) ∧ W' = w := by
  obtain ⟨ao, cap, rfl, hv⟩ := h.view
  have hw := h.word (k / 64)
  by_cases hlt : k / 64 < ws.length
  · obtain ⟨g, off, rfl, hg, hc⟩ := hv _ hlt
    have hb := bit_of _ (k % 64) hw
    have e : hasW ws k = (ws.getD (k / 64) 0).testBit (k % 64) := rfl
    rw [e, ← hb]
    clear hb e hv h
    generalize ws.getD (k / 64) 0 = x at *
    go_enter Try.func66, Try.ntmps66
    go_wp2
    go_ret
    exact ⟨rfl, rfl⟩
  · rw [hasW_out (Nat.not_lt.1 hlt)]
    clear hv h hw
    have hlt' : ¬ ((k : Int) / 64 < ws.length) := by omega
    go_enter Try.func66, Try.ntmps66
    go_wp2
    go_ret
    exact ⟨rfl, rfl⟩

theorem there_neg {ao : Option Addr} {len cap : Nat} (w : World) (k : Int) (hk : k < 0) :
    Calls Try.prog 66 #[.slice ao len cap, I k] w fun e W' => e = .returned (.bool false) ∧ W' = w := by
  go_enter Try.func66, Try.ntmps66
  go_wp2
  go_ret
  exact ⟨rfl, rfl⟩

theorem words_calls (n : Nat) (w : World) (hn : n ≤ 12288) : Calls Try.prog 50 #[I n] w fun e W' => e = .returned (I ((n + 63) / 64 : Nat)) ∧ W' = w := by
  go_enter Try.func50, Try.ntmps50
  go_wp2
  go_ret
  exact ⟨by go_num, rfl⟩

set_option maxRecDepth 100000 in
set_option maxHeartbeats 2000000 in
theorem mayBe_calls {v : Value} {ws : List Nat} (w : World) (h : Wds w v ws) (n : Nat) (h1 : 1 ≤ n) (h2 : n ≤ 12288) :
    Calls Try.prog 77 #[I n, v] w fun e W' => e = .returned (.bool (maySet n ws)) ∧ W' = w := by
  obtain ⟨ao, cap, rfl, hv⟩ := h.view
  have hwc := fun w => words_calls n w h2
  by_cases hl : ws.length = (n + 63) / 64
  · by_cases h0 : n % 64 = 0
    · rw [mayS_full hl h0]
      rw [← hl] at hwc
      clear hv h hl
      generalize ws.length = l at *
      have h0' : (n : Int) % 64 = 0 := by omega
      go_enter Try.func77, Try.ntmps77
      go_wp2_with fail
      refine (hwc _).mono ?_
      rintro e w1 ⟨rfl, rfl⟩
      go_wp2
      go_ret
      exact ⟨rfl, rfl⟩
    · rw [mayS_last (h.word _) h1 hl h0]
      have h0' : ¬ ((n : Int) % 64 = 0) := by omega
      have hlt : ws.length - 1 < ws.length := by omega
      obtain ⟨g, off, rfl, hg, hc⟩ := hv _ hlt
      have hw := h.word (ws.length - 1)
      generalize ws.getD (ws.length - 1) 0 = x at *
      have hub : ws.length ≤ 200 := by omega
      rw [← hl] at hwc
      clear hv h hl
      generalize ws.length = l at *
      have hpos : 1 ≤ l := by omega
      go_enter Try.func77, Try.ntmps77
      go_wp2_with fail
      refine (hwc _).mono ?_
      rintro e w1 ⟨rfl, rfl⟩
      go_wp2
      go_ret
      refine ⟨?_, rfl⟩
      show Ending.returned (Value.bool (((n : Int) % 64 == 0) || _)) = _
      rw [show ((n : Int) % 64 == 0) = false from by simpa using h0']
      rfl
  · rw [mayS_len hl]
    clear hv h
    generalize (n + 63) / 64 = l at *
    have hl' : ¬ ((ws.length : Int) = (l : Int)) := by omega
    go_enter Try.func77, Try.ntmps77
    go_wp2_with fail
    refine (hwc _).mono ?_
    rintro e w1 ⟨rfl, rfl⟩
    go_wp2
    go_ret
    exact ⟨rfl, rfl⟩

set_option maxRecDepth 100000 in
set_option maxHeartbeats 2000000 in
theorem check_calls {v : Value} {vs : List Value} {wss : List (List Nat)} (w : World) (hv : Sl w v vs) (hl : vs.length = wss.length) (hs : vs.length ≤ 2) (hw : ∀ i, i < vs.length → Wds w (vs.getD i undef) (wss.getD i [])) (n : Int) :
    Calls Try.prog 49 #[I n, v] w fun e W' => e = .returned (I (errAll n wss)) ∧ W' = w := by
  obtain ⟨ao, cap, rfl, hv⟩ := hv
  by_cases hn : 1 ≤ n ∧ n ≤ 12288
  · obtain ⟨m, rfl⟩ : ∃ m : Nat, n = m := ⟨n.toNat, by omega⟩
    obtain ⟨h1, h2⟩ := hn
    have HV : Hid (∀ k, k < vs.length → ∃ g off, ao = some ⟨g, off, none⟩ ∧ g < w.heap.size ∧ w.cell? ⟨g, off + k, none⟩ = vs[k]?) := hv
    have HW : Hid (∀ i, i < vs.length → Wds w (vs.getD i undef) (wss.getD i [])) := hw
    obtain ⟨ans, hans⟩ : ∃ ans, ans = errAll m wss := ⟨_, rfl⟩
    rw [← hans]
    have HS : Hid (ans = errAll m wss) := hans
    clear hans hv hw
    go_enter Try.func49, Try.ntmps49
    go_wp2
    go_loopw [15] (fun i wr => ∃ k : Nat, k ≤ vs.length ∧ i = .int .i64 k ∧ Hid (∀ j, j < k → maySet m (wss.getD j []) = true) ∧ wr = w) (fun i _ => vs.length - (RowKit.intOf i).toNat)
    case atStart => exact ⟨0, by omega, rfl, fun j hj => by omega, rfl⟩
    case round =>
      obtain ⟨k, hk, rfl, HT, rfl⟩ := hrel
      by_cases hlt : (k : Int) < (vs.length : Int)
      · have hkx : k < vs.length := by omega
        obtain ⟨g, off, rfl, hg, hc⟩ := HV.out k hkx
        have hW := HW.out k hkx
        rw [show vs[k]? = some (vs.getD k undef) by simp [hkx]] at hc
        have HX : Hid (Wds wr (vs.getD k undef) (wss.getD k [])) := hW
        have H8 : Hid (maySet m (wss.getD k []) = false → ans = 8) := fun hm => by rw [HS.out]; exact errAll_not ⟨by omega, by omega⟩ (by omega) hm
        have H0 : Hid (maySet m (wss.getD k []) = true → ∀ j, j < k + 1 → maySet m (wss.getD j []) = true) := fun hm j hj => by
          rcases Nat.lt_succ_iff_lt_or_eq.1 hj with hj | rfl
          · exact HT.out j hj
          · exact hm
        clear hW
        obtain ⟨u, hu⟩ : ∃ u, u = vs.getD k undef := ⟨_, rfl⟩
        rw [← hu] at hc HX
        have hone : u.oneCell' = true := by
          obtain ⟨ao', cap', e, _⟩ := HX.out.view
          rw [e]; rfl
        clear hu
        go_wp2_with fail
        refine (mayBe_calls _ HX.out m (by omega) (by omega)).mono ?_
        rintro e w1 ⟨rfl, rfl⟩
        cases hm : maySet m (wss.getD k [])
        · have E := H8.out hm
          subst E
          go_wp2
          go_ret
          exact ⟨rfl, rfl⟩
        · go_wp2
          go_roundw
          case rel => exact ⟨k + 1, by omega, by go_num, H0.out hm, by trivial⟩
          case measure => simp [RowKit.intOf]; omega
      · have E : ans = 0 := by
          rw [HS.out]
          exact errAll_ok ⟨by omega, by omega⟩ (fun j hj => HT.out j (by omega))
        subst E
        go_wp2
        go_ret
        exact ⟨rfl, rfl⟩
  · rw [errAll_bad hn]
    clear hv hw
    by_cases h1 : 1 ≤ n
    · have h2 : ¬ n ≤ 12288 := fun h => hn ⟨h1, h⟩
      clear hn
      go_enter Try.func49, Try.ntmps49
      go_wp2
      go_ret
      exact ⟨rfl, rfl⟩
    · clear hn
      go_enter Try.func49, Try.ntmps49
      go_wp2
      go_ret
      exact ⟨rfl, rfl⟩

set_option maxRecDepth 100000 in
set_option maxHeartbeats 2000000 in
theorem may_calls {v : Value} {ws : List Nat} (w : World) (h : Wds w v ws) (n : Nat) (h1 : 1 ≤ n) (h2 : n ≤ 12288) :
    Calls Try.prog 62 #[I n, v] w fun e W' => e = .returned (.bool (maySet n ws)) ∧ W' = w := by
  have HW : Hid (Wds w v ws) := h
  obtain ⟨ao, cap, rfl, _⟩ := h.view
  obtain ⟨ans, hans⟩ : ∃ ans, ans = maySet n ws := ⟨_, rfl⟩
  rw [← hans]
  have HS : Hid (ans = maySet n ws) := hans
  clear hans h
  go_enter Try.func62, Try.ntmps62
  go_wp2
  go_loopw [5] (fun i wr => ∃ m : Nat, m ≤ (n + 63) / 64 ∧ i = .int .i64 m ∧ wr = w) (fun i _ => (n + 63) / 64 - (RowKit.intOf i).toNat)
  case atStart => exact ⟨0, by omega, rfl, rfl⟩
  case round =>
    obtain ⟨m, hm, rfl, rfl⟩ := hrel
    by_cases hlt : (64 : Int) * (m : Int) < (n : Int)
    · go_wp2
      go_roundw
      case rel => exact ⟨m + 1, by omega, by go_num, by trivial⟩
      case measure => simp [RowKit.intOf]; omega
    · have em : m = (n + 63) / 64 := by omega
      by_cases hl : m = ws.length
      · have EM : Hid (m = (n + 63) / 64) := em
        clear em
        subst hl
        go_wp2
        go_loopw [6] (fun i wr' => ∃ k : Nat, n ≤ k ∧ k ≤ 64 * ws.length ∧ i = .int .i64 k ∧ Hid (∀ j, n ≤ j → j < k → hasW ws j = false) ∧ wr' = wr) (fun i _ => 64 * ws.length - (RowKit.intOf i).toNat)
        case atStart => exact ⟨n, by omega, by have := EM.out; omega, rfl, fun j h1 h2 => by omega, rfl⟩
        case round =>
          obtain ⟨k, hk1, hk2, rfl, HT, rfl⟩ := hrel
          by_cases hlt2 : (k : Int) < (64 : Int) * (ws.length : Int)
          · go_wp2_with fail
            refine (there_calls _ HW.out k (by omega)).mono ?_
            rintro e w1 ⟨rfl, rfl⟩
            cases hq : hasW ws k
            · have H0 : Hid (∀ j, n ≤ j → j < k + 1 → hasW ws j = false) := fun j h1 h2 => by
                rcases Nat.lt_succ_iff_lt_or_eq.1 h2 with hj | rfl
                · exact HT.out j h1 hj
                · exact hq
              go_wp2
              go_roundw
              case rel => exact ⟨k + 1, by omega, by omega, by go_num, H0, by trivial⟩
              case measure => simp [RowKit.intOf]; omega
            · have E : ans = false := by rw [HS.out]; exact mayS_no hk1 hq
              subst E
              go_wp2
              go_ret
              exact ⟨rfl, rfl⟩
          · have E : ans = true := by
              rw [HS.out]
              refine mayS_iff.2 ⟨EM.out, fun j hj => ?_⟩
              by_cases hj2 : j < k
              · exact HT.out j hj hj2
              · exact hasW_past (by omega)
            subst E
            go_wp2
            go_ret
            exact ⟨rfl, rfl⟩
      · have E : ans = false := by rw [HS.out]; exact mayS_len (by omega)
        have hl' : ¬ ((ws.length : Int) = (m : Int)) := by omega
        clear em hl
        subst E
        go_wp2
        go_ret
        exact ⟨rfl, rfl⟩

end Go.Proofs.Ytjmfdpilmljppaa

/-
  Sets in memory that a call made: one is made empty, and a number after the other is put in.
-/
namespace Go.Proofs.Ytjmfdpilmljppaa
open Go Go.RowKit Go.Shelf

/-- The set v holds the words ws, in a block of its own from number base on. -/
def Set1 (W : World) (base : Nat) (v : Value) (ws : List Nat) : Prop :=
  (∀ x ∈ ws, x < 18446744073709551616) ∧ ∃ g, v = .slice (some ⟨g, 0, none⟩) ws.length ws.length ∧ base ≤ g ∧ Blk W g 28 (ws.map U).toArray
/-- .. or there is none. -/
def SetR (W : World) (base : Nat) (v : Value) (ws : List Nat) : Prop := Set1 W base v ws ∨ (v = .slice none 0 0 ∧ ws = [])
theorem Set1.wds {W : World} {base : Nat} {v : Value} {ws : List Nat} (h : Set1 W base v ws) : Wds W v ws := by
  obtain ⟨h1, g, rfl, _, hb⟩ := h
  have := Sl.blk hb ws.length
  rw [List.length_map] at this
  exact ⟨h1, this⟩
theorem Set1.later {W W' : World} {base : Nat} {v : Value} {ws : List Nat} (h : Set1 W base v ws) (hb : Below W.heap.size W W') : Set1 W' base v ws := by
  obtain ⟨h1, g, e, hg, hk⟩ := h
  exact ⟨h1, g, e, hg, hk.later hb⟩
theorem Set1.weak {W : World} {base base' : Nat} {v : Value} {ws : List Nat} (h : Set1 W base v ws) (hb : base' ≤ base) : Set1 W base' v ws := by
  obtain ⟨h1, g, e, hg, hk⟩ := h
  exact ⟨h1, g, e, Nat.le_trans hb hg, hk⟩
theorem SetR.wds {W : World} {base : Nat} {v : Value} {ws : List Nat} (h : SetR W base v ws) : Wds W v ws := by
  rcases h with h | ⟨rfl, rfl⟩
  · exact h.wds
  · exact Wds.nil W
theorem SetR.later {W W' : World} {base : Nat} {v : Value} {ws : List Nat} (h : SetR W base v ws) (hb : Below W.heap.size W W') : SetR W' base v ws := by
  rcases h with h | h
  · exact .inl (h.later hb)
  · exact .inr h
theorem SetR.weak {W : World} {base base' : Nat} {v : Value} {ws : List Nat} (h : SetR W base v ws) (hb : base' ≤ base) : SetR W base' v ws := by
  rcases h with h | h
  · exact .inl (h.weak hb)
  · exact .inr h

theorem info_u64 : (Try.prog.info? 28).map (fun i => (i.zero, i.size, i.bytes)) = some (some (.int .u64 0), 1, 8) := by kernel_rfl

theorem made_zero (n : Nat) : madeCells #[.int .u64 0] n = ((List.replicate n 0).map U).toArray := by
  apply Array.ext
  · simp [madeCells]
  · intro i h1 h2
    simp only [madeCells, Array.getElem_map, Array.getElem_range]
    simp [Nat.mod_one]

/-- 'make(api.Set, n)'. -/
theorem wpList_mkW {ops : Array Oper} {rest : List Oper} {o : Oper} {a : Act} {Q : Exit → Act → World → Prop} {W : World} (hgd : o.guard = none) (l c : Operand) (ho : o.op = Op.makeSlice 30 l c) (n : Nat)
    (hl : a.eval l = .int .i64 n) (hc : a.eval c = .int .i64 n) (h1 : n ≤ 100000)
    (h : ∀ w', Blk w' W.heap.size 28 ((List.replicate n 0).map U).toArray → Below W.heap.size W w' → wpList Try.prog ops Q rest (a.put o.dst (.slice (some ⟨W.heap.size, 0, none⟩) n n)) w') : wpList Try.prog ops Q (o :: rest) a W := by
  obtain ⟨i0, hi, hz0, hz1, hz2⟩ := info_parts info_u64
  refine wpList_plain hgd fun K hK' => ?_
  have hrun := run_make (P := Try.prog) W 30 28 i0 (.int .u64 0) Try.underlying30 hi hz0 .i64 .i64 n n (by omega) (by omega) (by rw [hz2]; omega) (by omega)
  rw [hz1, Nat.mul_one] at hrun
  simp only [Int.toNat_natCast] at hrun
  rw [show (Value.int .u64 0).cells = #[.int .u64 0] from rfl, made_zero] at hrun
  have hN := h _ (Blk.new W 28 _) ((Below.refl _ W).alloc (Nat.le_refl _) _)
  clear h
  generalize ((List.replicate n 0).map U).toArray = cs at hrun hN
  unfold Oper.wp
  simp [execOp, ho, hl, hc, hrun, Result.andThen]
  exact hK' _ _ hN

/-- A number is put into a set. -/
def putW (ws : List Nat) (k : Nat) : List Nat := ws.set (k / 64) (ws.getD (k / 64) 0 ||| 2 ^ (k % 64))
theorem putW_len (ws : List Nat) (k : Nat) : (putW ws k).length = ws.length := by simp [putW]
theorem or_lt (x j : Nat) (hx : x < 18446744073709551616) (hj : j < 64) : x ||| 2 ^ j < 18446744073709551616 :=
  Nat.or_lt_two_pow (n := 64) hx (Nat.pow_lt_pow_right (by omega) hj)
theorem getD_lt {ws : List Nat} (h : ∀ x ∈ ws, x < 18446744073709551616) (k : Nat) : ws.getD k 0 < 18446744073709551616 := by
  by_cases hk : k < ws.length
  · have := h (ws[k]) (List.getElem_mem hk)
    simpa [hk] using this
  · simp [Nat.not_lt.1 hk]
theorem putW_lt {ws : List Nat} (h : ∀ x ∈ ws, x < 18446744073709551616) (k : Nat) : ∀ x ∈ putW ws k, x < 18446744073709551616 := by
  intro x hx
  rcases List.mem_or_eq_of_mem_set hx with hx | rfl
  · exact h x hx
  · exact or_lt _ _ (getD_lt h _) (Nat.mod_lt k (by omega))
theorem hasW_put {ws : List Nat} {k : Nat} (hk : k / 64 < ws.length) (j : Nat) : hasW (putW ws k) j = (hasW ws j || decide (j = k)) := by
  unfold hasW putW
  by_cases he : j / 64 = k / 64
  · rw [he]
    simp only [List.getD_eq_getElem?_getD, List.getElem?_set_self hk, Option.getD_some, Nat.testBit_or, Nat.testBit_two_pow]
    congr 1
    rw [decide_eq_decide]
    omega
  · simp only [List.getD_eq_getElem?_getD]
    rw [List.getElem?_set_ne (fun h => he h.symm)]
    rw [show decide (j = k) = false from by rw [decide_eq_false_iff_not]; intro h; rw [h] at he; exact he rfl, Bool.or_false]
theorem add_or {x j : Nat} (h : x.testBit j = false) : x + 2 ^ j = x ||| 2 ^ j := by
  have hp : 2 ^ (j + 1) = 2 * 2 ^ j := by rw [Nat.pow_succ, Nat.mul_comm]
  obtain ⟨a, b, hx, hb⟩ : ∃ a b, x = 2 ^ (j + 1) * a + b ∧ b < 2 ^ j := by
    refine ⟨x / 2 ^ j / 2, x % 2 ^ j, ?_, Nat.mod_lt x (Nat.two_pow_pos j)⟩
    have h2 : x / 2 ^ j % 2 = 0 := by
      rw [Nat.testBit_eq_decide_div_mod_eq] at h
      have := of_decide_eq_false h
      omega
    have h3 := Nat.div_add_mod x (2 ^ j)
    rw [hp, Nat.mul_comm 2, Nat.mul_assoc, show 2 * (x / 2 ^ j / 2) = x / 2 ^ j by omega]
    exact h3.symm
  have e1 : 2 ^ (j + 1) * a + b = 2 ^ (j + 1) * a ||| b := Nat.two_pow_add_eq_or_of_lt (by omega) a
  have e2 : 2 ^ j * 1 + b = 2 ^ j * 1 ||| b := Nat.two_pow_add_eq_or_of_lt hb 1
  have e3 : 2 ^ (j + 1) * a + (2 ^ j * 1 + b) = 2 ^ (j + 1) * a ||| (2 ^ j * 1 + b) := Nat.two_pow_add_eq_or_of_lt (by omega) a
  rw [hx, e1, Nat.or_assoc, Nat.or_comm b, show 2 ^ j ||| b = 2 ^ j * 1 + b by rw [e2, Nat.mul_one], ← e3, ← e1]
  omega

/-- The words of a set of l words, told by its numbers. -/
structure IsSet (l : Nat) (ws : List Nat) (p : Nat → Bool) : Prop where
  len : ws.length = l
  word : ∀ x ∈ ws, x < 18446744073709551616
  has : ∀ k, hasW ws k = p k
theorem IsSet.none (l : Nat) : IsSet l (List.replicate l 0) (fun _ => false) := ⟨by simp, fun x hx => by rw [(List.mem_replicate.1 hx).2]; decide, fun k => by
  unfold hasW
  rw [List.getD_eq_getElem?_getD, List.getElem?_replicate]
  split <;> simp⟩
theorem IsSet.put {l : Nat} {ws : List Nat} {p q : Nat → Bool} {k : Nat} (h : IsSet l ws p) (hk : k / 64 < l) (hq : ∀ j, q j = (p j || decide (j = k))) : IsSet l (putW ws k) q :=
  ⟨by rw [putW_len, h.len], putW_lt h.word k, fun j => by rw [hasW_put (by rw [h.len]; exact hk), h.has, hq]⟩
theorem IsSet.ext {l : Nat} {a b : List Nat} {p : Nat → Bool} (ha : IsSet l a p) (hb : IsSet l b p) : a = b := by
  apply List.ext_getElem
  · rw [ha.len, hb.len]
  · intro i h1 h2
    refine word_ext (ha.word _ (List.getElem_mem h1)) (hb.word _ (List.getElem_mem h2)) fun j hj => ?_
    have e := (ha.has (64 * i + j)).trans (hb.has (64 * i + j)).symm
    rw [hasW_at _ _ _ hj, hasW_at _ _ _ hj] at e
    simpa [h1, h2] using e
theorem IsSet.congr {l : Nat} {ws : List Nat} {p q : Nat → Bool} (h : IsSet l ws p) (hq : ∀ j, q j = p j) : IsSet l ws q := ⟨h.len, h.word, fun j => by rw [hq, h.has]⟩

/-- The cell that is written. -/
theorem blk_put {W : World} {g : Nat} {ws : List Nat} (h : Blk W g 28 (ws.map U).toArray) (i x : Nat) : Blk (W.setCell ⟨g, i, none⟩ (U x)) g 28 ((ws.set i x).map U).toArray := by
  have := h.set i (U x)
  rw [List.map_set]
  simpa using this
theorem blk_get {W : World} {g : Nat} {ws : List Nat} (h : Blk W g 28 (ws.map U).toArray) {i : Nat} (hi : i < ws.length) : W.cell? ⟨g, i, none⟩ = some (U (ws.getD i 0)) := by
  rw [h.cell i]
  simp [hi]

end Go.Proofs.Ytjmfdpilmljppaa

/-
  Sets of two: set.join and what it is handed; set.And, set.Or, set.Less.
-/
namespace Go.Proofs.Ytjmfdpilmljppaa
open Go Go.RowKit Go.Shelf

attribute [local go_sem] Oper.semAt_some ext_const

def notW (x y : Nat) : Nat := x &&& (18446744073709551615 - y)
theorem and_lt (x y : Nat) (hx : x < 18446744073709551616) : x &&& y < 18446744073709551616 := Nat.lt_of_le_of_lt Nat.and_le_left hx
theorem bits_or_lt (x y : Nat) (hx : x < 18446744073709551616) (hy : y < 18446744073709551616) : x ||| y < 18446744073709551616 := Nat.or_lt_two_pow (n := 64) hx hy
theorem notW_bit (x y j : Nat) (hy : y < 18446744073709551616) (hj : j < 64) : (notW x y).testBit j = (x.testBit j && !y.testBit j) := by
  unfold notW
  rw [Nat.testBit_and, show 18446744073709551615 - y = 2 ^ 64 - (y + 1) by omega, Nat.testBit_two_pow_sub_succ (by omega)]
  simp [hj]

theorem and1_calls (x y : Nat) (hx : x < 18446744073709551616) (hy : y < 18446744073709551616) (w : World) : Calls Try.prog 90 #[U x, U y] w fun e W' => e = .returned (U (x &&& y)) ∧ W' = w := by
  have h := u64_and_nat x y hx hy
  go_enter Try.func90, Try.ntmps90
  go_wp2
  go_ret
  exact ⟨rfl, rfl⟩
theorem or1_calls (x y : Nat) (hx : x < 18446744073709551616) (hy : y < 18446744073709551616) (w : World) : Calls Try.prog 52 #[U x, U y] w fun e W' => e = .returned (U (x ||| y)) ∧ W' = w := by
  have h := u64_or_nat x y hx hy
  go_enter Try.func52, Try.ntmps52
  go_wp2
  go_ret
  exact ⟨rfl, rfl⟩
/-- What a call that joins answers. -/
def joinW (op : Nat → Nat → Nat) (n : Int) (a b : List Nat) : List Nat := if errAll n [a, b] = 0 then List.zipWith op a b else []

theorem err_two {n : Int} {a b : List Nat} (h : errAll n [a, b] = 0) : 1 ≤ n ∧ n ≤ 12288 ∧ maySet n.toNat a = true ∧ maySet n.toNat b = true := by
  unfold errAll okN at h
  split at h
  · rename_i h1
    have h1 := of_decide_eq_true h1
    split at h
    · rename_i h2
      simp at h2
      exact ⟨h1.1, h1.2, h2.1, h2.2⟩
    · cases h
  · cases h
theorem err_one {n : Int} {a : List Nat} (h : errAll n [a] = 0) : 1 ≤ n ∧ n ≤ 12288 ∧ maySet n.toNat a = true := by
  unfold errAll okN at h
  split at h
  · rename_i h1
    have h1 := of_decide_eq_true h1
    split at h
    · rename_i h2
      simp at h2
      exact ⟨h1.1, h1.2, h2⟩
    · cases h
  · cases h
theorem err_cases (n : Int) (wss : List (List Nat)) : errAll n wss = 0 ∨ errAll n wss = 2 ∨ errAll n wss = 8 := by
  unfold errAll
  split
  · split <;> simp
  · simp

structure JoinAt (W : World) (g : Nat) (op : Nat → Nat → Nat) (a b : List Nat) (l k : Nat) (cs : List Nat) : Prop where
  len : cs.length = l
  word : ∀ x ∈ cs, x < 18446744073709551616
  done : ∀ j, j < k → cs.getD j 0 = op (a.getD j 0) (b.getD j 0)
  blk : Blk W g 28 (cs.map U).toArray
theorem JoinAt.step {W W' : World} {g : Nat} {op : Nat → Nat → Nat} {a b : List Nat} {l k : Nat} {cs : List Nat} (h : JoinAt W g op a b l k cs) (hb : Below W.heap.size W W') (hk : k < l) {z : Nat} (hz : z < 18446744073709551616) (he : z = op (a.getD k 0) (b.getD k 0)) :
    JoinAt (W'.setCell ⟨g, k, none⟩ (U z)) g op a b l (k + 1) (cs.set k z) := by
  refine ⟨by rw [List.length_set, h.len], fun x hx => ?_, fun j hj => ?_, blk_put (h.blk.later hb) k z⟩
  · rcases List.mem_or_eq_of_mem_set hx with hx | rfl
    · exact h.word x hx
    · exact hz
  · by_cases e : j = k
    · subst e
      rw [List.getD_eq_getElem?_getD, List.getElem?_set_self (by rw [h.len]; exact hk), ← he]
      rfl
    · rw [List.getD_eq_getElem?_getD, List.getElem?_set_ne (fun h => e h.symm), ← List.getD_eq_getElem?_getD]
      exact h.done j (by omega)
theorem JoinAt.all {W : World} {g : Nat} {op : Nat → Nat → Nat} {a b : List Nat} {l : Nat} {cs : List Nat} (h : JoinAt W g op a b l l cs) (ha : a.length = l) (hb : b.length = l) : cs = List.zipWith op a b := by
  apply List.ext_getElem
  · simp [h.len, ha, hb]
  · intro i h1 h2
    have := h.done i (by rw [← h.len]; exact h1)
    have ha' : i < a.length := by rw [ha, ← h.len]; exact h1
    have hb' : i < b.length := by rw [hb, ← h.len]; exact h1
    simpa [h1, ha', hb'] using this

set_option maxRecDepth 100000 in
set_option maxHeartbeats 4000000 in
theorem join_and {f : FuncId} {op : Nat → Nat → Nat} (hf : f = 90)
    (H : ∀ (x y : Nat), x < 18446744073709551616 → y < 18446744073709551616 → ∀ w : World, Calls Try.prog f #[U x, U y] w fun e W' => e = .returned (U (op x y)) ∧ W' = w)
    (hop : ∀ x y, x < 18446744073709551616 → y < 18446744073709551616 → op x y < 18446744073709551616)
    {va vb : Value} {a b : List Nat} (w : World) (ha : Wds w va a) (hb : Wds w vb b) (n : Int) :
    Calls Try.prog 51 #[I n, va, vb, .func (.func f) #[] #[]] w fun e W' => ∃ v, e = .returned (.tuple #[v, I (errAll n [a, b])]) ∧ SetR W' w.heap.size v (joinW op n a b) ∧ Below w.heap.size w W' := by
  have hmx : Try.prog.follows .mixedOrders = true := by kernel_rfl
  have HO : Hid (∀ (x y : Nat), x < 18446744073709551616 → y < 18446744073709551616 → ∀ w : World, Calls Try.prog f #[U x, U y] w fun e W' => e = .returned (U (op x y)) ∧ W' = w) := H
  have HP : Hid (∀ x y, x < 18446744073709551616 → y < 18446744073709551616 → op x y < 18446744073709551616) := hop
  have HA : Hid (Wds w va a) := ha
  have HB : Hid (Wds w vb b) := hb
  clear H hop
  have hck : ∀ W, Blk W w.heap.size 30 #[va, vb] → Below w.heap.size w W → Calls Try.prog 49 #[I n, .slice (some ⟨w.heap.size, 0, none⟩) 2 2] W fun e W' => e = .returned (I (errAll n [a, b])) ∧ W' = W := by
    intro W hW hB
    refine check_calls (vs := [va, vb]) (wss := [a, b]) W (Sl.blk hW 2) rfl (by simp) ?_ n
    intro i hi
    match i, hi with
    | 0, _ => exact ha.later hB
    | 1, _ => exact hb.later hB
  have HCK : Hid (∀ W, Blk W w.heap.size 30 #[va, vb] → Below w.heap.size w W → Calls Try.prog 49 #[I n, .slice (some ⟨w.heap.size, 0, none⟩) 2 2] W fun e W' => e = .returned (I (errAll n [a, b])) ∧ W' = W) := hck
  obtain ⟨aa, ca, rfl, hva⟩ := ha.view
  obtain ⟨ab, cb, rfl, hvb⟩ := hb.view
  have HVA : Hid (∀ k, k < a.length → ∃ g off, aa = some ⟨g, off, none⟩ ∧ g < w.heap.size ∧ w.cell? ⟨g, off + k, none⟩ = some (U (a.getD k 0))) := hva
  have HVB : Hid (∀ k, k < b.length → ∃ g off, ab = some ⟨g, off, none⟩ ∧ g < w.heap.size ∧ w.cell? ⟨g, off + k, none⟩ = some (U (b.getD k 0))) := hvb
  clear hva hvb ha hb hck
  obtain ⟨er, her⟩ : ∃ er, er = errAll n [a, b] := ⟨_, rfl⟩
  obtain ⟨ans, hans⟩ : ∃ ans, ans = joinW op n a b := ⟨_, rfl⟩
  rw [← her, ← hans]
  rw [← her] at HCK
  have HE : Hid (er = errAll n [a, b]) := her
  have HS : Hid (ans = joinW op n a b) := hans
  clear her hans
  by_cases h0 : er = 0
  · subst h0
    obtain ⟨h1, h2, hma, hmb⟩ := err_two HE.out.symm
    obtain ⟨m, rfl⟩ : ∃ m : Nat, n = m := ⟨n.toNat, by omega⟩
    rw [Int.toNat_natCast] at hma hmb
    have hla := (mayS_iff.1 hma).1
    have hlb := (mayS_iff.1 hmb).1
    have HW := fun w => words_calls m w (by omega)
    have hl2 : (m + 63) / 64 ≤ 192 := by omega
    have HLA : Hid (a.length = (m + 63) / 64) := hla
    have HLB : Hid (b.length = (m + 63) / 64) := hlb
    have HZ : Hid (ans = List.zipWith op a b) := by
      rw [HS.out]; unfold joinW; rw [if_pos HE.out.symm]; exact rfl
    clear hma hmb hla hlb HS HE
    generalize (m + 63) / 64 = l at *
    have HWH : Hid (∀ w : World, Calls Try.prog 50 #[I (m : Int)] w fun e W' => e = .returned (I (l : Int)) ∧ W' = w) := HW
    clear HW
    subst hf
    all_goals
      go_enter Try.func51, Try.ntmps51
      go_wp2_with fail
      refine (HCK.out _ (Blk.new w _ _) ((Below.refl _ w).alloc (Nat.le_refl _) _)).mono ?_
      rintro e w1 ⟨rfl, rfl⟩
      have hT := (Below.refl _ w).alloc (Nat.le_refl _) (.cells #[.slice aa a.length ca, .slice ab b.length cb] 30)
      generalize w.alloc (.cells #[.slice aa a.length ca, .slice ab b.length cb] 30) = W1 at *
      go_wp2_with fail
      refine (HWH.out _).mono ?_
      rintro e w1 ⟨rfl, rfl⟩
      go_wp2_with (at_make; refine wpList_mkW rfl _ _ rfl l rfl rfl (by omega) ?_; intro w2 hK hT2)
      have hJ : JoinAt w2 w1.heap.size op a b l 0 (List.replicate l 0) := ⟨by simp, (IsSet.none l).word, fun j hj => by omega, hK⟩
      have hT3 := then_below hT hT2
      have hg : w.heap.size ≤ w1.heap.size := hT.size
      generalize w1.heap.size = g at *
      clear hK hT2
      go_wp2
      go_loopw [26] (fun i wr => ∃ (k : Nat) (cs : List Nat), k ≤ l ∧ i = .int .i64 k ∧ JoinAt wr g op a b l k cs ∧ Below w.heap.size w wr) (fun i _ => l - (RowKit.intOf i).toNat)
      case atStart => exact ⟨0, _, by omega, rfl, hJ, hT3⟩
      case round =>
        clear hJ hT3
        obtain ⟨k, cs, hk, rfl, hJ, hB⟩ := hrel
        by_cases hlt : (k : Int) < (l : Int)
        · have hkl : k < l := by omega
          obtain ⟨ga, oa, rfl, hga, hca⟩ := HVA.out k (by rw [HLA.out]; exact hkl)
          obtain ⟨gb, ob, rfl, hgb, hcb⟩ := HVB.out k (by rw [HLB.out]; exact hkl)
          have hka : (k : Int) < (a.length : Int) := by rw [HLA.out]; exact hlt
          have hkb : (k : Int) < (b.length : Int) := by rw [HLB.out]; exact hlt
          have hxa := HA.out.word k
          have hxb := HB.out.word k
          have hxo := HP.out _ _ hxa hxb
          have eA : ∀ x : Ext wr, x.wd.cell? ⟨ga, oa + k, none⟩ = some (U (a.getD k 0)) := fun x => ((below_ext hB x).cell (p := ⟨ga, oa + k, none⟩) hga).trans hca
          have eB : ∀ x : Ext wr, x.wd.cell? ⟨gb, ob + k, none⟩ = some (U (b.getD k 0)) := fun x => ((below_ext hB x).cell (p := ⟨gb, ob + k, none⟩) hgb).trans hcb
          have HO2 : ∀ w : World, Calls Try.prog _ #[U (a.getD k 0), U (b.getD k 0)] w fun e W' => e = .returned (U (op (a.getD k 0) (b.getD k 0))) ∧ W' = w := HO.out _ _ hxa hxb
          have HJS : Hid (∀ W', Below wr.heap.size wr W' → JoinAt (W'.setCell ⟨g, k, none⟩ (U (op (a.getD k 0) (b.getD k 0)))) g op a b l (k + 1) (cs.set k (op (a.getD k 0) (b.getD k 0)))) := fun W' h => hJ.step h hkl hxo rfl
          have hbk := hJ.blk
          have hcl := hJ.len
          generalize op (a.getD k 0) (b.getD k 0) = z at *
          generalize a.getD k 0 = xa at *
          generalize b.getD k 0 = xb at *
          clear hca hcb hJ
          go_wp2
          refine wp_region_tail 13 hmx (by kernel_rfl) ?_
          simp only [List.take_succ_cons, List.take_zero, List.drop_succ_cons, List.drop_zero]
          repeat (go_big_quiet_step (exact calls_ext_same (HO2 _)))
          refine wpQuiet_nil ?_
          intro x
          have c1 := blk_get (hbk.later x.le) (i := k) (by rw [hcl]; exact hkl)
          have f1 := (hbk.later x.le).frozen k
          gi_wp2
          have hJ2 := HJS.out _ x.le
          have hBX := (below_ext hB x).setCell (p := ⟨g, k, none⟩) hg (U z)
          generalize x.wd.setCell ⟨g, k, none⟩ (U z) = W5 at *
          clear c1 f1 hbk eA eB
          go_wp2
          go_roundw
          case rel => exact ⟨k + 1, _, by omega, by go_num, hJ2, hBX⟩
          case measure => simp [RowKit.intOf]; omega
        · have e : k = l := by omega
          subst e
          have hz := (hJ.all HLA.out HLB.out).trans HZ.out.symm
          have hR : SetR wr w.heap.size (.slice (some ⟨g, 0, none⟩) k k) ans := by
            refine .inl ⟨by rw [← hz]; exact hJ.word, g, by rw [← hz, hJ.len], hg, by rw [← hz]; exact hJ.blk⟩
          clear hJ hz
          go_wp2
          go_ret2
          exact ⟨_, rfl, hR, hB⟩
  · have hz : ans = [] := by
      rw [HS.out]; unfold joinW; rw [if_neg]; rw [← HE.out]; exact h0
    subst hz
    subst hf
    all_goals
      go_enter Try.func51, Try.ntmps51
      go_wp2_with fail
      refine (HCK.out _ (Blk.new w _ _) ((Below.refl _ w).alloc (Nat.le_refl _) _)).mono ?_
      rintro e w1 ⟨rfl, rfl⟩
      have hT := (Below.refl _ w).alloc (Nat.le_refl _) (.cells #[.slice aa a.length ca, .slice ab b.length cb] 30)
      generalize w.alloc (.cells #[.slice aa a.length ca, .slice ab b.length cb] 30) = W1 at *
      go_wp2
      go_ret2
      exact ⟨_, rfl, .inr ⟨rfl, rfl⟩, hT⟩

set_option maxRecDepth 100000 in
set_option maxHeartbeats 4000000 in
theorem join_or {f : FuncId} {op : Nat → Nat → Nat} (hf : f = 52)
    (H : ∀ (x y : Nat), x < 18446744073709551616 → y < 18446744073709551616 → ∀ w : World, Calls Try.prog f #[U x, U y] w fun e W' => e = .returned (U (op x y)) ∧ W' = w)
    (hop : ∀ x y, x < 18446744073709551616 → y < 18446744073709551616 → op x y < 18446744073709551616)
    {va vb : Value} {a b : List Nat} (w : World) (ha : Wds w va a) (hb : Wds w vb b) (n : Int) :
    Calls Try.prog 51 #[I n, va, vb, .func (.func f) #[] #[]] w fun e W' => ∃ v, e = .returned (.tuple #[v, I (errAll n [a, b])]) ∧ SetR W' w.heap.size v (joinW op n a b) ∧ Below w.heap.size w W' := by
  have hmx : Try.prog.follows .mixedOrders = true := by kernel_rfl
  have HO : Hid (∀ (x y : Nat), x < 18446744073709551616 → y < 18446744073709551616 → ∀ w : World, Calls Try.prog f #[U x, U y] w fun e W' => e = .returned (U (op x y)) ∧ W' = w) := H
  have HP : Hid (∀ x y, x < 18446744073709551616 → y < 18446744073709551616 → op x y < 18446744073709551616) := hop
  have HA : Hid (Wds w va a) := ha
  have HB : Hid (Wds w vb b) := hb
  clear H hop
  have hck : ∀ W, Blk W w.heap.size 30 #[va, vb] → Below w.heap.size w W → Calls Try.prog 49 #[I n, .slice (some ⟨w.heap.size, 0, none⟩) 2 2] W fun e W' => e = .returned (I (errAll n [a, b])) ∧ W' = W := by
    intro W hW hB
    refine check_calls (vs := [va, vb]) (wss := [a, b]) W (Sl.blk hW 2) rfl (by simp) ?_ n
    intro i hi
    match i, hi with
    | 0, _ => exact ha.later hB
    | 1, _ => exact hb.later hB
  have HCK : Hid (∀ W, Blk W w.heap.size 30 #[va, vb] → Below w.heap.size w W → Calls Try.prog 49 #[I n, .slice (some ⟨w.heap.size, 0, none⟩) 2 2] W fun e W' => e = .returned (I (errAll n [a, b])) ∧ W' = W) := hck
  obtain ⟨aa, ca, rfl, hva⟩ := ha.view
  obtain ⟨ab, cb, rfl, hvb⟩ := hb.view
  have HVA : Hid (∀ k, k < a.length → ∃ g off, aa = some ⟨g, off, none⟩ ∧ g < w.heap.size ∧ w.cell? ⟨g, off + k, none⟩ = some (U (a.getD k 0))) := hva
  have HVB : Hid (∀ k, k < b.length → ∃ g off, ab = some ⟨g, off, none⟩ ∧ g < w.heap.size ∧ w.cell? ⟨g, off + k, none⟩ = some (U (b.getD k 0))) := hvb
  clear hva hvb ha hb hck
  obtain ⟨er, her⟩ : ∃ er, er = errAll n [a, b] := ⟨_, rfl⟩
  obtain ⟨ans, hans⟩ : ∃ ans, ans = joinW op n a b := ⟨_, rfl⟩
  rw [← her, ← hans]
  rw [← her] at HCK
  have HE : Hid (er = errAll n [a, b]) := her
  have HS : Hid (ans = joinW op n a b) := hans
  clear her hans
  by_cases h0 : er = 0
  · subst h0
    obtain ⟨h1, h2, hma, hmb⟩ := err_two HE.out.symm
    obtain ⟨m, rfl⟩ : ∃ m : Nat, n = m := ⟨n.toNat, by omega⟩
    rw [Int.toNat_natCast] at hma hmb
    have hla := (mayS_iff.1 hma).1
    have hlb := (mayS_iff.1 hmb).1
    have HW := fun w => words_calls m w (by omega)
    have hl2 : (m + 63) / 64 ≤ 192 := by omega
    have HLA : Hid (a.length = (m + 63) / 64) := hla
    have HLB : Hid (b.length = (m + 63) / 64) := hlb
    have HZ : Hid (ans = List.zipWith op a b) := by
      rw [HS.out]; unfold joinW; rw [if_pos HE.out.symm]; exact rfl
    clear hma hmb hla hlb HS HE
    generalize (m + 63) / 64 = l at *
    have HWH : Hid (∀ w : World, Calls Try.prog 50 #[I (m : Int)] w fun e W' => e = .returned (I (l : Int)) ∧ W' = w) := HW
    clear HW
    subst hf
    all_goals
      go_enter Try.func51, Try.ntmps51
      go_wp2_with fail
      refine (HCK.out _ (Blk.new w _ _) ((Below.refl _ w).alloc (Nat.le_refl _) _)).mono ?_
      rintro e w1 ⟨rfl, rfl⟩
      have hT := (Below.refl _ w).alloc (Nat.le_refl _) (.cells #[.slice aa a.length ca, .slice ab b.length cb] 30)
      generalize w.alloc (.cells #[.slice aa a.length ca, .slice ab b.length cb] 30) = W1 at *
      go_wp2_with fail
      refine (HWH.out _).mono ?_
      rintro e w1 ⟨rfl, rfl⟩
      go_wp2_with (at_make; refine wpList_mkW rfl _ _ rfl l rfl rfl (by omega) ?_; intro w2 hK hT2)
      have hJ : JoinAt w2 w1.heap.size op a b l 0 (List.replicate l 0) := ⟨by simp, (IsSet.none l).word, fun j hj => by omega, hK⟩
      have hT3 := then_below hT hT2
      have hg : w.heap.size ≤ w1.heap.size := hT.size
      generalize w1.heap.size = g at *
      clear hK hT2
      go_wp2
      go_loopw [26] (fun i wr => ∃ (k : Nat) (cs : List Nat), k ≤ l ∧ i = .int .i64 k ∧ JoinAt wr g op a b l k cs ∧ Below w.heap.size w wr) (fun i _ => l - (RowKit.intOf i).toNat)
      case atStart => exact ⟨0, _, by omega, rfl, hJ, hT3⟩
      case round =>
        clear hJ hT3
        obtain ⟨k, cs, hk, rfl, hJ, hB⟩ := hrel
        by_cases hlt : (k : Int) < (l : Int)
        · have hkl : k < l := by omega
          obtain ⟨ga, oa, rfl, hga, hca⟩ := HVA.out k (by rw [HLA.out]; exact hkl)
          obtain ⟨gb, ob, rfl, hgb, hcb⟩ := HVB.out k (by rw [HLB.out]; exact hkl)
          have hka : (k : Int) < (a.length : Int) := by rw [HLA.out]; exact hlt
          have hkb : (k : Int) < (b.length : Int) := by rw [HLB.out]; exact hlt
          have hxa := HA.out.word k
          have hxb := HB.out.word k
          have hxo := HP.out _ _ hxa hxb
          have eA : ∀ x : Ext wr, x.wd.cell? ⟨ga, oa + k, none⟩ = some (U (a.getD k 0)) := fun x => ((below_ext hB x).cell (p := ⟨ga, oa + k, none⟩) hga).trans hca
          have eB : ∀ x : Ext wr, x.wd.cell? ⟨gb, ob + k, none⟩ = some (U (b.getD k 0)) := fun x => ((below_ext hB x).cell (p := ⟨gb, ob + k, none⟩) hgb).trans hcb
          have HO2 : ∀ w : World, Calls Try.prog _ #[U (a.getD k 0), U (b.getD k 0)] w fun e W' => e = .returned (U (op (a.getD k 0) (b.getD k 0))) ∧ W' = w := HO.out _ _ hxa hxb
          have HJS : Hid (∀ W', Below wr.heap.size wr W' → JoinAt (W'.setCell ⟨g, k, none⟩ (U (op (a.getD k 0) (b.getD k 0)))) g op a b l (k + 1) (cs.set k (op (a.getD k 0) (b.getD k 0)))) := fun W' h => hJ.step h hkl hxo rfl
          have hbk := hJ.blk
          have hcl := hJ.len
          generalize op (a.getD k 0) (b.getD k 0) = z at *
          generalize a.getD k 0 = xa at *
          generalize b.getD k 0 = xb at *
          clear hca hcb hJ
          go_wp2
          refine wp_region_tail 13 hmx (by kernel_rfl) ?_
          simp only [List.take_succ_cons, List.take_zero, List.drop_succ_cons, List.drop_zero]
          repeat (go_big_quiet_step (exact calls_ext_same (HO2 _)))
          refine wpQuiet_nil ?_
          intro x
          have c1 := blk_get (hbk.later x.le) (i := k) (by rw [hcl]; exact hkl)
          have f1 := (hbk.later x.le).frozen k
          gi_wp2
          have hJ2 := HJS.out _ x.le
          have hBX := (below_ext hB x).setCell (p := ⟨g, k, none⟩) hg (U z)
          generalize x.wd.setCell ⟨g, k, none⟩ (U z) = W5 at *
          clear c1 f1 hbk eA eB
          go_wp2
          go_roundw
          case rel => exact ⟨k + 1, _, by omega, by go_num, hJ2, hBX⟩
          case measure => simp [RowKit.intOf]; omega
        · have e : k = l := by omega
          subst e
          have hz := (hJ.all HLA.out HLB.out).trans HZ.out.symm
          have hR : SetR wr w.heap.size (.slice (some ⟨g, 0, none⟩) k k) ans := by
            refine .inl ⟨by rw [← hz]; exact hJ.word, g, by rw [← hz, hJ.len], hg, by rw [← hz]; exact hJ.blk⟩
          clear hJ hz
          go_wp2
          go_ret2
          exact ⟨_, rfl, hR, hB⟩
  · have hz : ans = [] := by
      rw [HS.out]; unfold joinW; rw [if_neg]; rw [← HE.out]; exact h0
    subst hz
    subst hf
    all_goals
      go_enter Try.func51, Try.ntmps51
      go_wp2_with fail
      refine (HCK.out _ (Blk.new w _ _) ((Below.refl _ w).alloc (Nat.le_refl _) _)).mono ?_
      rintro e w1 ⟨rfl, rfl⟩
      have hT := (Below.refl _ w).alloc (Nat.le_refl _) (.cells #[.slice aa a.length ca, .slice ab b.length cb] 30)
      generalize w.alloc (.cells #[.slice aa a.length ca, .slice ab b.length cb] 30) = W1 at *
      go_wp2
      go_ret2
      exact ⟨_, rfl, .inr ⟨rfl, rfl⟩, hT⟩

end Go.Proofs.Ytjmfdpilmljppaa
