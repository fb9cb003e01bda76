/-
  The document's answer of sets of two (tidehallref03): Same, two, joined, And, Or, Less, All, Meets, Meet, Inside, In.
-/
import Derived.Test.YtckklobbbidonaaDoorSetTwo
import Derived.Test.YtckklobbbidonaaDoorLists
namespace Go.Proofs.YtckklobbbidonaaDoor
open Go Go.RowKit Go.Shelf

attribute [local go_sem] Oper.semAt_some ext_const

theorem take_eq_succN {xs ys : List Nat} {k : Nat} (hx : k < xs.length) (hy : k < ys.length) (h : xs.take k = ys.take k) (he : xs.getD k 0 = ys.getD k 0) : xs.take (k + 1) = ys.take (k + 1) := by
  rw [List.take_succ_eq_append_getElem hx, List.take_succ_eq_append_getElem hy, h]
  simp [hx, hy] at he
  rw [he]

set_option maxRecDepth 100000 in
set_option maxHeartbeats 2000000 in
theorem same_calls {xs ys : List Nat} {u v : Value} (w : World) (hu : Wds w u xs) (hv : Wds w v ys) (hx : xs.length ≤ 100000) :
    Calls Tryd.prog 19 #[u, v] w fun e W' => e = .returned (.bool (decide (xs = ys))) ∧ Below w.heap.size w W' := by
  have hmx : Tryd.prog.follows .mixedOrders = true := by kernel_rfl
  obtain ⟨ao, cap, rfl, hA⟩ := hu.view
  obtain ⟨ao', cap', rfl, hB⟩ := hv.view
  have HA : Hid (∀ k, k < xs.length → ∃ g off, ao = some ⟨g, off, none⟩ ∧ g < w.heap.size ∧ w.cell? ⟨g, off + k, none⟩ = some (U (xs.getD k 0))) := hA
  have HB : Hid (∀ k, k < ys.length → ∃ g off, ao' = some ⟨g, off, none⟩ ∧ g < w.heap.size ∧ w.cell? ⟨g, off + k, none⟩ = some (U (ys.getD k 0))) := hB
  clear hu hv hA hB
  obtain ⟨ans, hans⟩ : ∃ ans, ans = decide (xs = ys) := ⟨_, rfl⟩
  rw [← hans]
  have HS : Hid (ans = decide (xs = ys)) := hans
  clear hans
  by_cases hl : (xs.length : Int) = ys.length
  · have hl' : ys.length = xs.length := by omega
    clear hl
    rw [hl'] at HB ⊢
    have HL : Hid (ys.length = xs.length) := hl'
    clear hl'
    go_enter Tryd.func19, Tryd.ntmps19
    go_wp2
    go_loopw [5] (fun i wr => ∃ k : Nat, k ≤ xs.length ∧ i = .int .i64 k ∧ Hid (xs.take k = ys.take k) ∧ Below w.heap.size w wr) (fun i _ => xs.length - (intOf i).toNat)
    case atStart => exact ⟨0, by omega, rfl, by show _ = _; simp, Below.refl _ _⟩
    case round =>
      obtain ⟨k, hk, rfl, HT, hT⟩ := hrel
      by_cases hlt : (k : Int) < (xs.length : Int)
      · have hkx : k < xs.length := by omega
        obtain ⟨g, off, rfl, hg, hc⟩ := HA.out k hkx
        obtain ⟨g', off', rfl, hg', hc'⟩ := HB.out k hkx
        have e0 : ∀ x : Ext wr, x.wd.cell? ⟨g, off + k, none⟩ = some (U (xs.getD k 0)) := fun x => ((below_ext hT x).cell (p := ⟨g, off + k, none⟩) hg).trans hc
        have e1 : ∀ x : Ext wr, x.wd.cell? ⟨g', off' + k, none⟩ = some (U (ys.getD k 0)) := fun x => ((below_ext hT x).cell (p := ⟨g', off' + k, none⟩) hg').trans hc'
        have HE : Hid (xs.getD k 0 = ys.getD k 0 → xs.take (k + 1) = ys.take (k + 1)) := take_eq_succN hkx (by have := HL.out; omega) HT.out
        have HD : Hid (xs.getD k 0 ≠ ys.getD k 0 → ans = false) := fun hne => by rw [HS.out, decide_eq_false_iff_not]; intro he; exact hne (by rw [he])
        clear hg hg' hc hc'
        generalize xs.getD k 0 = x at e0 HE HD
        generalize ys.getD k 0 = y at e1 HE HD
        cases hq : ((x : Int) != (y : Int))
        · go_wp2
          refine wp_region_look hmx (by kernel_rfl) ?_
          repeat (go_big_quiet_step (fail))
          refine wpQuiet_nil ?_
          intro v
          go_wp2
          go_roundw
          case rel => exact ⟨k + 1, by omega, by go_num, HE.out (Int.ofNat_inj.1 (by simpa using hq)), then_below hT v.le⟩
          case measure => simp [intOf]; omega
        · go_wp2
          refine wp_region_look hmx (by kernel_rfl) ?_
          repeat (go_big_quiet_step (fail))
          refine wpQuiet_nil ?_
          intro v
          go_wp2
          go_ret
          exact ⟨by rw [HD.out (fun h => by simp [h] at hq)]; rfl, then_below hT v.le⟩
      · have E : ans = true := by
          rw [HS.out, decide_eq_true_eq]
          have h1 := HT.out
          rwa [List.take_of_length_le (by omega), List.take_of_length_le (by have := HL.out; omega)] at h1
        subst E
        go_wp2
        go_ret
        exact ⟨rfl, hT⟩
  · have E : ans = false := by rw [HS.out, decide_eq_false_iff_not]; intro he; rw [he] at hl; exact hl rfl
    subst E
    go_enter Tryd.func19, Tryd.ntmps19
    go_wp2
    go_ret
    exact ⟨rfl, Below.refl _ _⟩

theorem errAll_first {n : Int} {a b : List Nat} (h : errAll n [a] ≠ 0) : errAll n [a, b] = errAll n [a] := by
  unfold errAll at h ⊢
  cases h1 : okN n <;> cases h2 : mayS n.toNat a <;> cases h3 : mayS n.toNat b <;> simp_all
theorem errAll_second {n : Int} {a b : List Nat} (h : errAll n [a] = 0) : errAll n [a, b] = errAll n [b] := by
  unfold errAll at h ⊢
  cases h1 : okN n <;> cases h2 : mayS n.toNat a <;> cases h3 : mayS n.toNat b <;> simp_all

def pick3 (c1 c2 c3 x y : Bool) : Bool := x && y && c1 || x && !y && c2 || !x && y && c3

theorem upto_yes {p : Nat → Bool} {k : Nat} (h : p k = true) (j : Nat) : (decide (j < k + 1) && p j) = ((decide (j < k) && p j) || decide (j = k)) := by
  by_cases e : j = k
  · subst e; simp [h]
  · have : decide (j < k + 1) = decide (j < k) := by rw [decide_eq_decide]; omega
    rw [this]; simp [e]
theorem upto_no {p : Nat → Bool} {k : Nat} (h : p k = false) (j : Nat) : (decide (j < k + 1) && p j) = (decide (j < k) && p j) := by
  by_cases e : j = k
  · subst e; simp [h]
  · have : decide (j < k + 1) = decide (j < k) := by rw [decide_eq_decide]; omega
    rw [this]

/-- The bit that is put, as the program reckons it. -/
theorem shl_bit (j : Nat) (hj : j < 64) : IntKind.u64.wrap ((2 : Int) ^ j) = 2 ^ j := by
  rw [IntKind.wrap_u64]
  have : 2 ^ j < 2 ^ 64 := Nat.pow_lt_pow_right (by omega) hj
  have e : ((2 : Int) ^ j) = ((2 ^ j : Nat) : Int) := by norm_cast
  rw [e]
  generalize 2 ^ j = y at *
  omega
theorem or_bit (x j : Nat) (hx : x < 18446744073709551616) (hj : j < 64) : bits .or .u64 (x : Int) ((2 : Int) ^ j) = ((x ||| 2 ^ j : Nat) : Int) := by
  have e : ((2 : Int) ^ j) = ((2 ^ j : Nat) : Int) := by norm_cast
  rw [e]
  exact u64_or_nat x (2 ^ j) hx (show 2 ^ j < 2 ^ 64 from Nat.pow_lt_pow_right (by omega) hj)

end Go.Proofs.YtckklobbbidonaaDoor
