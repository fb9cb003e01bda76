/-
  The document's answer of sets of two (tidehallref03): Same, two, joined, And, Or, Less, All, Meets, Meet, Inside, In.
-/
import Derived.Test.YtckklobbbidonaaSetTwo
import Derived.Test.YtckklobbbidonaaLists
namespace Go.Proofs.Ytckklobbbidonaa
open Go Go.RowKit Go.Shelf

attribute [local go_sem] Oper.semAt_some ext_const

theorem take_eq_succN {xs ys : List Nat} {k : Nat} (hx : k < xs.length) (hy : k < ys.length) (h : xs.take k = ys.take k) (he : xs.getD k 0 = ys.getD k 0) : xs.take (k + 1) = ys.take (k + 1) := by
  rw [List.take_succ_eq_append_getElem hx, List.take_succ_eq_append_getElem hy, h]
  simp [hx, hy] at he
  rw [he]

set_option maxRecDepth 100000 in
set_option maxHeartbeats 2000000 in
theorem same_calls {xs ys : List Nat} {u v : Value} (w : World) (hu : Wds w u xs) (hv : Wds w v ys) (hx : xs.length ≤ 100000) :
    Calls Try.prog 14 #[u, v] w fun e W' => e = .returned (.bool (decide (xs = ys))) ∧ Below w.heap.size w W' := by
  have hmx : Try.prog.follows .mixedOrders = true := by kernel_rfl
  obtain ⟨ao, cap, rfl, hA⟩ := hu.view
  obtain ⟨ao', cap', rfl, hB⟩ := hv.view
  have HA : Hid (∀ k, k < xs.length → ∃ g off, ao = some ⟨g, off, none⟩ ∧ g < w.heap.size ∧ w.cell? ⟨g, off + k, none⟩ = some (U (xs.getD k 0))) := hA
  have HB : Hid (∀ k, k < ys.length → ∃ g off, ao' = some ⟨g, off, none⟩ ∧ g < w.heap.size ∧ w.cell? ⟨g, off + k, none⟩ = some (U (ys.getD k 0))) := hB
  clear hu hv hA hB
  obtain ⟨ans, hans⟩ : ∃ ans, ans = decide (xs = ys) := ⟨_, rfl⟩
  rw [← hans]
  have HS : Hid (ans = decide (xs = ys)) := hans
  clear hans
  by_cases hl : (xs.length : Int) = ys.length
  · have hl' : ys.length = xs.length := by omega
    clear hl
    rw [hl'] at HB ⊢
    have HL : Hid (ys.length = xs.length) := hl'
    clear hl'
    go_enter Try.func14, Try.ntmps14
    go_wp2
    go_loopw [5] (fun i wr => ∃ k : Nat, k ≤ xs.length ∧ i = .int .i64 k ∧ Hid (xs.take k = ys.take k) ∧ Below w.heap.size w wr) (fun i _ => xs.length - (intOf i).toNat)
    case atStart => exact ⟨0, by omega, rfl, by show _ = _; simp, Below.refl _ _⟩
    case round =>
      obtain ⟨k, hk, rfl, HT, hT⟩ := hrel
      by_cases hlt : (k : Int) < (xs.length : Int)
      · have hkx : k < xs.length := by omega
        obtain ⟨g, off, rfl, hg, hc⟩ := HA.out k hkx
        obtain ⟨g', off', rfl, hg', hc'⟩ := HB.out k hkx
        have e0 : ∀ x : Ext wr, x.wd.cell? ⟨g, off + k, none⟩ = some (U (xs.getD k 0)) := fun x => ((below_ext hT x).cell (p := ⟨g, off + k, none⟩) hg).trans hc
        have e1 : ∀ x : Ext wr, x.wd.cell? ⟨g', off' + k, none⟩ = some (U (ys.getD k 0)) := fun x => ((below_ext hT x).cell (p := ⟨g', off' + k, none⟩) hg').trans hc'
        have HE : Hid (xs.getD k 0 = ys.getD k 0 → xs.take (k + 1) = ys.take (k + 1)) := take_eq_succN hkx (by have := HL.out; omega) HT.out
        have HD : Hid (xs.getD k 0 ≠ ys.getD k 0 → ans = false) := fun hne => by rw [HS.out, decide_eq_false_iff_not]; intro he; exact hne (by rw [he])
        clear hg hg' hc hc'
        generalize xs.getD k 0 = x at e0 HE HD
        generalize ys.getD k 0 = y at e1 HE HD
        cases hq : ((x : Int) != (y : Int))
        · go_wp2
          refine wp_region_look hmx (by kernel_rfl) ?_
          repeat (go_big_quiet_step (fail))
          refine wpQuiet_nil ?_
          intro v
          go_wp2
          go_roundw
          case rel => exact ⟨k + 1, by omega, by go_num, HE.out (Int.ofNat_inj.1 (by simpa using hq)), then_below hT v.le⟩
          case measure => simp [intOf]; omega
        · go_wp2
          refine wp_region_look hmx (by kernel_rfl) ?_
          repeat (go_big_quiet_step (fail))
          refine wpQuiet_nil ?_
          intro v
          go_wp2
          go_ret
          exact ⟨by rw [HD.out (fun h => by simp [h] at hq)]; rfl, then_below hT v.le⟩
      · have E : ans = true := by
          rw [HS.out, decide_eq_true_eq]
          have h1 := HT.out
          rwa [List.take_of_length_le (by omega), List.take_of_length_le (by have := HL.out; omega)] at h1
        subst E
        go_wp2
        go_ret
        exact ⟨rfl, hT⟩
  · have E : ans = false := by rw [HS.out, decide_eq_false_iff_not]; intro he; rw [he] at hl; exact hl rfl
    subst E
    go_enter Try.func14, Try.ntmps14
    go_wp2
    go_ret
    exact ⟨rfl, Below.refl _ _⟩

theorem errAll_first {n : Int} {a b : List Nat} (h : errAll n [a] ≠ 0) : errAll n [a, b] = errAll n [a] := by
  unfold errAll at h ⊢
  cases h1 : okN n <;> cases h2 : mayS n.toNat a <;> cases h3 : mayS n.toNat b <;> simp_all
theorem errAll_second {n : Int} {a b : List Nat} (h : errAll n [a] = 0) : errAll n [a, b] = errAll n [b] := by
  unfold errAll at h ⊢
  cases h1 : okN n <;> cases h2 : mayS n.toNat a <;> cases h3 : mayS n.toNat b <;> simp_all

theorem two_calls {va vb : Value} {a b : List Nat} (w : World) (ha : Wds w va a) (hb : Wds w vb b) (n : Int) :
    Calls Try.prog 17 #[I n, va, vb] w fun e W' => e = .returned (I (errAll n [a, b])) ∧ W' = w := by
  by_cases h : errAll n [a] = 0
  · rw [errAll_second h]
    have C := rcheck_calls w ha n
    have D := rcheck_calls w hb n
    rw [h] at C
    generalize errAll n [b] = e2 at *
    go_enter Try.func17, Try.ntmps17
    go_wp2_with fail
    refine C.mono ?_
    rintro e w1 ⟨rfl, hw⟩
    subst hw
    go_wp2_with fail
    refine D.mono ?_
    rintro e w2 ⟨rfl, hw⟩
    subst hw
    go_wp2
    go_ret
    exact ⟨rfl, rfl⟩
  · rw [errAll_first h]
    have C := rcheck_calls w ha n
    generalize errAll n [a] = e1 at *
    go_enter Try.func17, Try.ntmps17
    go_wp2_with fail
    refine C.mono ?_
    rintro e w1 ⟨rfl, hw⟩
    subst hw
    go_wp2
    go_ret
    exact ⟨rfl, rfl⟩

def pick3 (c1 c2 c3 x y : Bool) : Bool := x && y && c1 || x && !y && c2 || !x && y && c3

theorem upto_yes {p : Nat → Bool} {k : Nat} (h : p k = true) (j : Nat) : (decide (j < k + 1) && p j) = ((decide (j < k) && p j) || decide (j = k)) := by
  by_cases e : j = k
  · subst e; simp [h]
  · have : decide (j < k + 1) = decide (j < k) := by rw [decide_eq_decide]; omega
    rw [this]; simp [e]
theorem upto_no {p : Nat → Bool} {k : Nat} (h : p k = false) (j : Nat) : (decide (j < k + 1) && p j) = (decide (j < k) && p j) := by
  by_cases e : j = k
  · subst e; simp [h]
  · have : decide (j < k + 1) = decide (j < k) := by rw [decide_eq_decide]; omega
    rw [this]

/-- The bit that is put, as the program reckons it. -/
theorem shl_bit (j : Nat) (hj : j < 64) : IntKind.u64.wrap ((2 : Int) ^ j) = 2 ^ j := by
  rw [IntKind.wrap_u64]
  have : 2 ^ j < 2 ^ 64 := Nat.pow_lt_pow_right (by omega) hj
  have e : ((2 : Int) ^ j) = ((2 ^ j : Nat) : Int) := by norm_cast
  rw [e]
  generalize 2 ^ j = y at *
  omega
theorem or_bit (x j : Nat) (hx : x < 18446744073709551616) (hj : j < 64) : bits .or .u64 (x : Int) ((2 : Int) ^ j) = ((x ||| 2 ^ j : Nat) : Int) := by
  have e : ((2 : Int) ^ j) = ((2 ^ j : Nat) : Int) := by norm_cast
  rw [e]
  exact u64_or_nat x (2 ^ j) hx (show 2 ^ j < 2 ^ 64 from Nat.pow_lt_pow_right (by omega) hj)

set_option maxRecDepth 100000 in
set_option maxHeartbeats 4000000 in
theorem joined_calls {va vb : Value} {a b : List Nat} (w : World) (ha : Wds w va a) (hb : Wds w vb b) (n : Nat) (h1 : 1 ≤ n) (h2 : n ≤ 12288) (c1 c2 c3 : Bool) (hc : (c1 = true ∧ c2 = false ∧ c3 = false) ∨ (c1 = true ∧ c2 = true ∧ c3 = true) ∨ (c1 = false ∧ c2 = true ∧ c3 = false)) :
    Calls Try.prog 18 #[I n, va, vb, .bool c1, .bool c2, .bool c3] w fun e W' =>
      ∃ v ws, e = .returned v ∧ Set1 W' w.heap.size v ws ∧ IsSet ((n + 63) / 64) ws (fun j => decide (j < n) && pick3 c1 c2 c3 (hasW a j) (hasW b j)) ∧ Below w.heap.size w W' := by
  have hmx : Try.prog.follows .mixedOrders = true := by kernel_rfl
  have HA : Hid (Wds w va a) := ha
  have HB : Hid (Wds w vb b) := hb
  obtain ⟨aa, ca, rfl, _⟩ := ha.view
  obtain ⟨ab, cb, rfl, _⟩ := hb.view
  clear ha hb
  have hl2 : (n + 63) / 64 ≤ 192 := by omega
  have HL : Hid (∀ k, k < n → k / 64 < (n + 63) / 64) := fun k hk => by omega
  have hwl : ((n : Int) + 63) / 64 = (((n + 63) / 64 : Nat) : Int) := by omega
  obtain ⟨l, hl⟩ : ∃ l, l = (n + 63) / 64 := ⟨_, rfl⟩
  rw [← hl] at hl2 HL hwl ⊢
  clear hl
  obtain ⟨p, hp⟩ : ∃ p : Nat → Bool, ∀ j, p j = pick3 c1 c2 c3 (hasW a j) (hasW b j) := ⟨_, fun _ => rfl⟩
  have HE : Hid ((fun j => decide (j < n) && pick3 c1 c2 c3 (hasW a j) (hasW b j)) = fun j => decide (j < n) && p j) := by
    show _ = _
    funext j; rw [hp]
  rw [HE.out]
  have HP : Hid (∀ j, p j = pick3 c1 c2 c3 (hasW a j) (hasW b j)) := hp
  clear HE hp
  rcases hc with ⟨rfl, rfl, rfl⟩ | ⟨rfl, rfl, rfl⟩ | ⟨rfl, rfl, rfl⟩
  all_goals
    go_enter Try.func18, Try.ntmps18
    go_wp2_with (at_make; refine wpList_mkW rfl _ _ rfl l (congrArg (Value.int IntKind.i64) hwl) (congrArg (Value.int IntKind.i64) hwl) (by omega) ?_; intro w2 hK hT)
    have hJ : IsSet l (List.replicate l 0) (fun j => decide (j < 0) && p j) := (IsSet.none l).congr (fun j => by simp)
    obtain ⟨g, hg⟩ : ∃ g, g = w.heap.size := ⟨_, rfl⟩
    rw [← hg] at hK
    rw [← hg]
    have hg' : w.heap.size ≤ g := by omega
    clear hg
    go_wp2
    go_loopw [14] (fun i wr => ∃ (k : Nat) (cs : List Nat), k ≤ n ∧ i = .int .i64 k ∧ IsSet l cs (fun j => decide (j < k) && p j) ∧ Blk wr g 34 (cs.map U).toArray ∧ Below w.heap.size w wr) (fun i _ => n - (intOf i).toNat)
    case atStart => exact ⟨0, _, by omega, rfl, hJ, hK, hT⟩
    case round =>
      clear hJ hK hT
      obtain ⟨k, cs, hk, rfl, hJ, hbk, hB⟩ := hrel
      by_cases hlt : (k : Int) < (n : Int)
      · have hkl := HL.out k (by omega)
        have hki : (k : Int) / 64 < (l : Int) := by omega
        have TA := there_calls wr (HA.out.later hB) k (by omega)
        have TB := there_calls wr (HB.out.later hB) k (by omega)
        have HJ : Hid (IsSet l cs (fun j => decide (j < k) && p j)) := hJ
        have hpk := HP.out k
        have HT1 : Hid (p k = true → ∀ j, (decide (j < k + 1) && p j) = ((decide (j < k) && p j) || decide (j = k))) := fun h => upto_yes h
        have HT0 : Hid (p k = false → ∀ j, (decide (j < k + 1) && p j) = (decide (j < k) && p j)) := fun h => upto_no h
        have hlen := hJ.len
        have hword := getD_lt hJ.word (k / 64)
        have e0 : ∀ x : Ext wr, x.wd.cell? ⟨g, k / 64, none⟩ = some (U (cs.getD (k / 64) 0)) := fun x => blk_get (hbk.later x.le) (by rw [hlen]; exact hkl)
        have HBK : Hid (∀ x : Ext wr, Blk (x.wd.setCell ⟨g, k / 64, none⟩ (U (cs.getD (k / 64) 0 ||| 2 ^ (k % 64)))) g 34 ((putW cs k).map U).toArray) := fun x => blk_put (hbk.later x.le) (k / 64) _
        have HPU : Hid (∀ q : Nat → Bool, (∀ j, q j = ((decide (j < k) && p j) || decide (j = k))) → IsSet l (putW cs k) q) := fun q hq => hJ.put hkl hq
        have f0 : ∀ x : Ext wr, x.wd.frozen? ⟨g, k / 64, none⟩ = false := fun x => (hbk.later x.le).frozen _
        have hsb := shl_bit (k % 64) (Nat.mod_lt k (by omega))
        have hlor := or_bit _ (k % 64) hword (Nat.mod_lt k (by omega))
        have HBKK : Hid (Blk wr g 34 (cs.map U).toArray) := hbk
        clear hJ hbk hlen
        generalize cs.getD (k / 64) 0 ||| 2 ^ (k % 64) = z at *
        generalize cs.getD (k / 64) 0 = x0 at *
        go_wp2_with fail
        refine TA.mono ?_
        rintro e w1 ⟨rfl, hw⟩
        subst hw
        go_wp2_with fail
        refine TB.mono ?_
        rintro e w1 ⟨rfl, hw⟩
        subst hw
        generalize hasW a k = xa at *
        generalize hasW b k = xb at *
        have HPK : Hid (p k = pick3 _ _ _ xa xb) := hpk
        clear hpk TA TB
        cases xa <;> cases xb
        all_goals
          go_wp2
        all_goals
          first
          | (go_roundw
             case rel => exact ⟨k + 1, cs, by omega, by go_num, HJ.out.congr (HT0.out HPK.out), HBKK.out, hB⟩
             case measure => simp [intOf]; omega)
          | (refine wp_region_tail 10 hmx (by kernel_rfl) ?_
             simp only [List.take_succ_cons, List.take_zero, List.drop_succ_cons, List.drop_zero]
             repeat (go_big_quiet_step (fail))
             refine wpQuiet_nil ?_
             intro x
             have c1 := e0 x
             have f1 := f0 x
             gi_wp2
             try rw [hsb]
             try rw [hlor]
             have hK := HBK.out x
             have hBX := (below_ext hB x).setCell (p := ⟨g, k / 64, none⟩) hg' (U z)
             generalize x.wd.setCell ⟨g, k / 64, none⟩ (U z) = W5 at *
             clear c1 f1 e0 f0
             go_wp2
             go_roundw
             case rel => exact ⟨k + 1, _, by omega, by go_num, HPU.out _ (HT1.out HPK.out), hK, hBX⟩
             case measure => simp [intOf]; omega)
      · have e : k = n := by omega
        subst e
        have hR : Set1 wr w.heap.size (.slice (some ⟨g, 0, none⟩) l l) cs := ⟨hJ.word, g, by rw [hJ.len], hg', hbk⟩
        clear hbk
        go_wp2
        go_ret
        exact ⟨_, rfl, _, hR, hJ, hB⟩

end Go.Proofs.Ytckklobbbidonaa
