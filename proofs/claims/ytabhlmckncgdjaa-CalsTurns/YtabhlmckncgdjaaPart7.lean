/-
  cal.keep over slots, handed the closure of Take, of Cut, of Put: the list of what stays. (Written by tools/gen/cal_keep.py.)
-/
import Derived.Test.YtabhlmckncgdjaaPart6
import Derived.Test.YtabhlmckncgdjaaPart5
namespace Go.Proofs.Ytabhlmckncgdjaa
open Go Go.RowKit Go.Shelf

attribute [local go_sem] Oper.semAt_some ext_const

theorem fm_snoc {st : Slt → Option Slt} {c : List Slt} {k : Nat} {s : Slt} (hk : k < c.length) (hs : c.getD k (0, 0, 0) = s) : (c.take (k + 1)).filterMap st = (c.take k).filterMap st ++ (st s).toList := by
  rw [take_snoc hk hs, List.filterMap_append]
  cases h : st s <;> simp [h]
theorem fm_len {st : Slt → Option Slt} {c : List Slt} {k : Nat} : ((c.take k).filterMap st).length ≤ c.length :=
  Nat.le_trans (List.length_filterMap_le _ _) (by rw [List.length_take]; omega)

set_option maxRecDepth 100000 in
set_option maxHeartbeats 8000000 in
theorem keep_take {xs : List Slt} {v : Value} {st : Slt → Option Slt} (w : World) (A : Nat) (hS : Ss w v xs) (hn : xs.length ≤ 100000)
    (hc : ∀ (wr : World) (f t o : Int), Below w.heap.size w wr → Calls Try.prog 94 #[V3 f t o, .pointer (some ⟨A, 0, none⟩)] wr fun e W' => ∃ f' t' o' b, e = .returned (.tuple #[V3 f' t' o', .bool b]) ∧ Hid (b = true → st (f, t, o) = some (f', t', o')) ∧ Hid (b = false → st (f, t, o) = none) ∧ Below wr.heap.size wr W') :
    Calls Try.prog 81 #[v, .func (.func 94) #[] #[.pointer (some ⟨A, 0, none⟩)]] w fun e W' => ∃ u, e = .returned u ∧ So W' w.heap.size u (xs.filterMap st) ∧ Below w.heap.size w W' := by
  obtain ⟨ao, cap, rfl, hS⟩ := hS.form
  have HS : Hid (Ss w (.slice ao xs.length cap) xs) := hS
  have HC : Hid (∀ (wr : World) (f t o : Int), Below w.heap.size w wr → Calls Try.prog 94 #[V3 f t o, .pointer (some ⟨A, 0, none⟩)] wr fun e W' => ∃ f' t' o' b, e = .returned (.tuple #[V3 f' t' o', .bool b]) ∧ Hid (b = true → st (f, t, o) = some (f', t', o')) ∧ Hid (b = false → st (f, t, o) = none) ∧ Below wr.heap.size wr W') := hc
  clear hS hc
  have HE : Hid ((xs.take xs.length).filterMap st = xs.filterMap st) := by show _ = _; rw [List.take_length]
  generalize xs.filterMap st = tgt at HE ⊢
  go_enter Try.func81, Try.ntmps81
  go_wp2_with (at_make; refine wpList_mkS (base := w.heap.size) rfl _ _ rfl xs.length rfl rfl (by omega) (by omega) (Nat.le_refl _) ?_; intro ao1 cap1 w1 hL1 hT1)
  go_loopw [5, 15] (fun u i wr => ∃ (k : Nat) (ao' : Option Addr) (n' cap' : Nat) (ys : List Slt), k ≤ xs.length ∧ i = .int .i64 k ∧ u = .slice ao' n' cap' ∧ Hid (So wr w.heap.size (.slice ao' n' cap') ys) ∧ Hid (ys = (xs.take k).filterMap st) ∧ Below w.heap.size w wr) (fun _ i _ => xs.length - (intOf i).toNat)
  case atStart => exact ⟨0, _, _, _, [], by omega, rfl, rfl, hL1, by show _ = _; simp, hT1⟩
  case round =>
    obtain ⟨k, ao', n', cap', ys, hk, rfl, rfl, HY, HF, hT⟩ := hrel
    by_cases hlt : (k : Int) < (xs.length : Int)
    · have hk' : k < xs.length := by omega
      obtain ⟨g, off, f, t, o, rfl, hu, ha⟩ := (HS.out.later hT).at hk'
      obtain ⟨hg, c0, c1, c2⟩ := ha.cells
      have HU : Hid ((xs.take (k + 1)).filterMap st = ys ++ (st (f, t, o)).toList) := by show _ = _; rw [fm_snoc hk' hu, HF.out]
      have hBN := (Below.refl _ wr).alloc (Nat.le_refl _) (.cells (C3 f t o) 52)
      have hyl : ys.length ≤ 100000 := by rw [HF.out]; exact Nat.le_trans fm_len hn
      clear hu ha
      have HC1 : Hid (Calls Try.prog 94 #[V3 f t o, .pointer (some ⟨A, 0, none⟩)] (wr.alloc (.cells (C3 f t o) 52)) fun e W' => ∃ f' t' o' b, e = .returned (.tuple #[V3 f' t' o', .bool b]) ∧ Hid (b = true → st (f, t, o) = some (f', t', o')) ∧ Hid (b = false → st (f, t, o) = none) ∧ Below (wr.alloc (.cells (C3 f t o) 52)).heap.size (wr.alloc (.cells (C3 f t o) 52)) W') := HC.out _ f t o (then_below hT hBN)
      go_wp2_with fail
      refine HC1.out.mono ?_
      rintro e w2 ⟨f', t', o', b, rfl, H1, H0, hB2⟩
      have hT2 := then_below hBN hB2
      have hBN2 := (Below.refl _ w2).alloc (Nat.le_refl _) (.cells (C3 f' t' o') 52)
      have hT3 := then_below hT2 hBN2
      have hz3 : w.heap.size ≤ (w2.alloc (.cells (C3 f' t' o') 52)).heap.size := Nat.le_trans hT.size hT3.size
      have HY3 : Hid (So (w2.alloc (.cells (C3 f' t' o') 52)) w.heap.size (.slice ao' n' cap') ys) := HY.out.later hT3
      have HT3 : Hid (Below w.heap.size w (w2.alloc (.cells (C3 f' t' o') 52))) := then_below hT hT3
      clear hB2 hT2 hBN2 hT3 hBN HC1 c0 c1 c2
      cases b
      · have hn1 := H0.out rfl
        have HK : Hid (ys = (xs.take (k + 1)).filterMap st) := by show _ = _; rw [HU.out, hn1]; simp
        clear H1 H0 hn1 HU
        go_wp2
        go_roundw
        case rel => exact ⟨k + 1, _, _, _, ys, by omega, by go_num, rfl, HY3.out, HK, HT3.out⟩
        case measure => simp [intOf]; omega
      · have hn1 := H1.out rfl
        have HK : Hid (ys ++ [(f', t', o')] = (xs.take (k + 1)).filterMap st) := by show _ = _; rw [HU.out, hn1]; simp
        clear H1 H0 hn1 HU
        go_wp2_with (first
          | (at_builtin; refine wpList_appS (base := w.heap.size) (xs := ys) rfl _ _ rfl rfl rfl (by simp) HY3.out hyl hz3 ?_; intro ao4 n4 cap4 w4 hW4 hB4)
          | go_in)
        go_roundw
        case rel => exact ⟨k + 1, _, _, _, _, by omega, by go_num, rfl, hW4, HK, HT3.out.trans hB4⟩
        case measure => simp [intOf]; omega
    · obtain rfl : k = xs.length := by omega
      have hE : ys = tgt := HF.out.trans HE.out
      subst hE
      have HY2 : Hid (So wr w.heap.size (.slice ao' n' cap') ys) := HY
      go_wp2
      go_ret
      exact ⟨_, rfl, HY2.out, hT⟩

set_option maxRecDepth 100000 in
set_option maxHeartbeats 8000000 in
theorem keep_put {xs : List Slt} {v : Value} {st : Slt → Option Slt} (w : World) (A : Nat) (hS : Ss w v xs) (hn : xs.length ≤ 100000)
    (hc : ∀ (wr : World) (f t o : Int), Below w.heap.size w wr → Calls Try.prog 82 #[V3 f t o, .pointer (some ⟨A, 0, none⟩)] wr fun e W' => ∃ f' t' o' b, e = .returned (.tuple #[V3 f' t' o', .bool b]) ∧ Hid (b = true → st (f, t, o) = some (f', t', o')) ∧ Hid (b = false → st (f, t, o) = none) ∧ Below wr.heap.size wr W') :
    Calls Try.prog 81 #[v, .func (.func 82) #[] #[.pointer (some ⟨A, 0, none⟩)]] w fun e W' => ∃ u, e = .returned u ∧ So W' w.heap.size u (xs.filterMap st) ∧ Below w.heap.size w W' := by
  obtain ⟨ao, cap, rfl, hS⟩ := hS.form
  have HS : Hid (Ss w (.slice ao xs.length cap) xs) := hS
  have HC : Hid (∀ (wr : World) (f t o : Int), Below w.heap.size w wr → Calls Try.prog 82 #[V3 f t o, .pointer (some ⟨A, 0, none⟩)] wr fun e W' => ∃ f' t' o' b, e = .returned (.tuple #[V3 f' t' o', .bool b]) ∧ Hid (b = true → st (f, t, o) = some (f', t', o')) ∧ Hid (b = false → st (f, t, o) = none) ∧ Below wr.heap.size wr W') := hc
  clear hS hc
  have HE : Hid ((xs.take xs.length).filterMap st = xs.filterMap st) := by show _ = _; rw [List.take_length]
  generalize xs.filterMap st = tgt at HE ⊢
  go_enter Try.func81, Try.ntmps81
  go_wp2_with (at_make; refine wpList_mkS (base := w.heap.size) rfl _ _ rfl xs.length rfl rfl (by omega) (by omega) (Nat.le_refl _) ?_; intro ao1 cap1 w1 hL1 hT1)
  go_loopw [5, 15] (fun u i wr => ∃ (k : Nat) (ao' : Option Addr) (n' cap' : Nat) (ys : List Slt), k ≤ xs.length ∧ i = .int .i64 k ∧ u = .slice ao' n' cap' ∧ Hid (So wr w.heap.size (.slice ao' n' cap') ys) ∧ Hid (ys = (xs.take k).filterMap st) ∧ Below w.heap.size w wr) (fun _ i _ => xs.length - (intOf i).toNat)
  case atStart => exact ⟨0, _, _, _, [], by omega, rfl, rfl, hL1, by show _ = _; simp, hT1⟩
  case round =>
    obtain ⟨k, ao', n', cap', ys, hk, rfl, rfl, HY, HF, hT⟩ := hrel
    by_cases hlt : (k : Int) < (xs.length : Int)
    · have hk' : k < xs.length := by omega
      obtain ⟨g, off, f, t, o, rfl, hu, ha⟩ := (HS.out.later hT).at hk'
      obtain ⟨hg, c0, c1, c2⟩ := ha.cells
      have HU : Hid ((xs.take (k + 1)).filterMap st = ys ++ (st (f, t, o)).toList) := by show _ = _; rw [fm_snoc hk' hu, HF.out]
      have hBN := (Below.refl _ wr).alloc (Nat.le_refl _) (.cells (C3 f t o) 52)
      have hyl : ys.length ≤ 100000 := by rw [HF.out]; exact Nat.le_trans fm_len hn
      clear hu ha
      have HC1 : Hid (Calls Try.prog 82 #[V3 f t o, .pointer (some ⟨A, 0, none⟩)] (wr.alloc (.cells (C3 f t o) 52)) fun e W' => ∃ f' t' o' b, e = .returned (.tuple #[V3 f' t' o', .bool b]) ∧ Hid (b = true → st (f, t, o) = some (f', t', o')) ∧ Hid (b = false → st (f, t, o) = none) ∧ Below (wr.alloc (.cells (C3 f t o) 52)).heap.size (wr.alloc (.cells (C3 f t o) 52)) W') := HC.out _ f t o (then_below hT hBN)
      go_wp2_with fail
      refine HC1.out.mono ?_
      rintro e w2 ⟨f', t', o', b, rfl, H1, H0, hB2⟩
      have hT2 := then_below hBN hB2
      have hBN2 := (Below.refl _ w2).alloc (Nat.le_refl _) (.cells (C3 f' t' o') 52)
      have hT3 := then_below hT2 hBN2
      have hz3 : w.heap.size ≤ (w2.alloc (.cells (C3 f' t' o') 52)).heap.size := Nat.le_trans hT.size hT3.size
      have HY3 : Hid (So (w2.alloc (.cells (C3 f' t' o') 52)) w.heap.size (.slice ao' n' cap') ys) := HY.out.later hT3
      have HT3 : Hid (Below w.heap.size w (w2.alloc (.cells (C3 f' t' o') 52))) := then_below hT hT3
      clear hB2 hT2 hBN2 hT3 hBN HC1 c0 c1 c2
      cases b
      · have hn1 := H0.out rfl
        have HK : Hid (ys = (xs.take (k + 1)).filterMap st) := by show _ = _; rw [HU.out, hn1]; simp
        clear H1 H0 hn1 HU
        go_wp2
        go_roundw
        case rel => exact ⟨k + 1, _, _, _, ys, by omega, by go_num, rfl, HY3.out, HK, HT3.out⟩
        case measure => simp [intOf]; omega
      · have hn1 := H1.out rfl
        have HK : Hid (ys ++ [(f', t', o')] = (xs.take (k + 1)).filterMap st) := by show _ = _; rw [HU.out, hn1]; simp
        clear H1 H0 hn1 HU
        go_wp2_with (first
          | (at_builtin; refine wpList_appS (base := w.heap.size) (xs := ys) rfl _ _ rfl rfl rfl (by simp) HY3.out hyl hz3 ?_; intro ao4 n4 cap4 w4 hW4 hB4)
          | go_in)
        go_roundw
        case rel => exact ⟨k + 1, _, _, _, _, by omega, by go_num, rfl, hW4, HK, HT3.out.trans hB4⟩
        case measure => simp [intOf]; omega
    · obtain rfl : k = xs.length := by omega
      have hE : ys = tgt := HF.out.trans HE.out
      subst hE
      have HY2 : Hid (So wr w.heap.size (.slice ao' n' cap') ys) := HY
      go_wp2
      go_ret
      exact ⟨_, rfl, HY2.out, hT⟩

set_option maxRecDepth 100000 in
set_option maxHeartbeats 8000000 in
theorem keep_cut {xs : List Slt} {v : Value} {st : Slt → Option Slt} (w : World) (A B : Nat) (hS : Ss w v xs) (hn : xs.length ≤ 100000)
    (hc : ∀ (wr : World) (f t o : Int), Below w.heap.size w wr → Calls Try.prog 92 #[V3 f t o, .pointer (some ⟨A, 0, none⟩), .pointer (some ⟨B, 0, none⟩)] wr fun e W' => ∃ f' t' o' b, e = .returned (.tuple #[V3 f' t' o', .bool b]) ∧ Hid (b = true → st (f, t, o) = some (f', t', o')) ∧ Hid (b = false → st (f, t, o) = none) ∧ Below wr.heap.size wr W') :
    Calls Try.prog 81 #[v, .func (.func 92) #[] #[.pointer (some ⟨A, 0, none⟩), .pointer (some ⟨B, 0, none⟩)]] w fun e W' => ∃ u, e = .returned u ∧ So W' w.heap.size u (xs.filterMap st) ∧ Below w.heap.size w W' := by
  obtain ⟨ao, cap, rfl, hS⟩ := hS.form
  have HS : Hid (Ss w (.slice ao xs.length cap) xs) := hS
  have HC : Hid (∀ (wr : World) (f t o : Int), Below w.heap.size w wr → Calls Try.prog 92 #[V3 f t o, .pointer (some ⟨A, 0, none⟩), .pointer (some ⟨B, 0, none⟩)] wr fun e W' => ∃ f' t' o' b, e = .returned (.tuple #[V3 f' t' o', .bool b]) ∧ Hid (b = true → st (f, t, o) = some (f', t', o')) ∧ Hid (b = false → st (f, t, o) = none) ∧ Below wr.heap.size wr W') := hc
  clear hS hc
  have HE : Hid ((xs.take xs.length).filterMap st = xs.filterMap st) := by show _ = _; rw [List.take_length]
  generalize xs.filterMap st = tgt at HE ⊢
  go_enter Try.func81, Try.ntmps81
  go_wp2_with (at_make; refine wpList_mkS (base := w.heap.size) rfl _ _ rfl xs.length rfl rfl (by omega) (by omega) (Nat.le_refl _) ?_; intro ao1 cap1 w1 hL1 hT1)
  go_loopw [5, 15] (fun u i wr => ∃ (k : Nat) (ao' : Option Addr) (n' cap' : Nat) (ys : List Slt), k ≤ xs.length ∧ i = .int .i64 k ∧ u = .slice ao' n' cap' ∧ Hid (So wr w.heap.size (.slice ao' n' cap') ys) ∧ Hid (ys = (xs.take k).filterMap st) ∧ Below w.heap.size w wr) (fun _ i _ => xs.length - (intOf i).toNat)
  case atStart => exact ⟨0, _, _, _, [], by omega, rfl, rfl, hL1, by show _ = _; simp, hT1⟩
  case round =>
    obtain ⟨k, ao', n', cap', ys, hk, rfl, rfl, HY, HF, hT⟩ := hrel
    by_cases hlt : (k : Int) < (xs.length : Int)
    · have hk' : k < xs.length := by omega
      obtain ⟨g, off, f, t, o, rfl, hu, ha⟩ := (HS.out.later hT).at hk'
      obtain ⟨hg, c0, c1, c2⟩ := ha.cells
      have HU : Hid ((xs.take (k + 1)).filterMap st = ys ++ (st (f, t, o)).toList) := by show _ = _; rw [fm_snoc hk' hu, HF.out]
      have hBN := (Below.refl _ wr).alloc (Nat.le_refl _) (.cells (C3 f t o) 52)
      have hyl : ys.length ≤ 100000 := by rw [HF.out]; exact Nat.le_trans fm_len hn
      clear hu ha
      have HC1 : Hid (Calls Try.prog 92 #[V3 f t o, .pointer (some ⟨A, 0, none⟩), .pointer (some ⟨B, 0, none⟩)] (wr.alloc (.cells (C3 f t o) 52)) fun e W' => ∃ f' t' o' b, e = .returned (.tuple #[V3 f' t' o', .bool b]) ∧ Hid (b = true → st (f, t, o) = some (f', t', o')) ∧ Hid (b = false → st (f, t, o) = none) ∧ Below (wr.alloc (.cells (C3 f t o) 52)).heap.size (wr.alloc (.cells (C3 f t o) 52)) W') := HC.out _ f t o (then_below hT hBN)
      go_wp2_with fail
      refine HC1.out.mono ?_
      rintro e w2 ⟨f', t', o', b, rfl, H1, H0, hB2⟩
      have hT2 := then_below hBN hB2
      have hBN2 := (Below.refl _ w2).alloc (Nat.le_refl _) (.cells (C3 f' t' o') 52)
      have hT3 := then_below hT2 hBN2
      have hz3 : w.heap.size ≤ (w2.alloc (.cells (C3 f' t' o') 52)).heap.size := Nat.le_trans hT.size hT3.size
      have HY3 : Hid (So (w2.alloc (.cells (C3 f' t' o') 52)) w.heap.size (.slice ao' n' cap') ys) := HY.out.later hT3
      have HT3 : Hid (Below w.heap.size w (w2.alloc (.cells (C3 f' t' o') 52))) := then_below hT hT3
      clear hB2 hT2 hBN2 hT3 hBN HC1 c0 c1 c2
      cases b
      · have hn1 := H0.out rfl
        have HK : Hid (ys = (xs.take (k + 1)).filterMap st) := by show _ = _; rw [HU.out, hn1]; simp
        clear H1 H0 hn1 HU
        go_wp2
        go_roundw
        case rel => exact ⟨k + 1, _, _, _, ys, by omega, by go_num, rfl, HY3.out, HK, HT3.out⟩
        case measure => simp [intOf]; omega
      · have hn1 := H1.out rfl
        have HK : Hid (ys ++ [(f', t', o')] = (xs.take (k + 1)).filterMap st) := by show _ = _; rw [HU.out, hn1]; simp
        clear H1 H0 hn1 HU
        go_wp2_with (first
          | (at_builtin; refine wpList_appS (base := w.heap.size) (xs := ys) rfl _ _ rfl rfl rfl (by simp) HY3.out hyl hz3 ?_; intro ao4 n4 cap4 w4 hW4 hB4)
          | go_in)
        go_roundw
        case rel => exact ⟨k + 1, _, _, _, _, by omega, by go_num, rfl, hW4, HK, HT3.out.trans hB4⟩
        case measure => simp [intOf]; omega
    · obtain rfl : k = xs.length := by omega
      have hE : ys = tgt := HF.out.trans HE.out
      subst hE
      have HY2 : Hid (So wr w.heap.size (.slice ao' n' cap') ys) := HY
      go_wp2
      go_ret
      exact ⟨_, rfl, HY2.out, hT⟩

end Go.Proofs.Ytabhlmckncgdjaa

/-
  What the calls of cal come to, without a program: what keep keeps, what Concat puts together.
-/
namespace Go.Proofs.Ytabhlmckncgdjaa
open Go Go.RowKit Go.Shelf

def takeK (ow : Int) (s : Slt) : Option Slt := if (s.2.2 != ow) = true then some s else none
def cutK (ow to : Int) (s : Slt) : Option Slt := if s.1 < endS ow to s.2.1 s.2.2 then some (s.1, endS ow to s.2.1 s.2.2, s.2.2) else none
def putK (x : Int) (s : Slt) : Option Slt := if s.2.1 ≤ x then some s else none
theorem takeK_less (c : List Slt) (ow : Int) : c.filterMap (takeK ow) = lessC c ow := by
  unfold lessC
  rw [← List.filterMap_eq_filter]
  refine fm_congr fun s _ => ?_
  unfold takeK
  simp [Option.guard]
theorem cutK_ended {c : List Slt} (hf : fineC c) (ow to : Int) : c.filterMap (cutK ow to) = endedC c ow to := by
  refine fm_congr fun s hs => ?_
  obtain ⟨f, t, o⟩ := s
  have := hf _ hs
  simp only at this
  unfold cutK cutS endS
  simp only
  by_cases ho : o = ow
  · rw [if_pos ho]
    by_cases ht : t ≤ to
    · rw [if_pos ht, if_pos this, if_neg (by omega), if_neg (by omega)]
    · rw [if_neg ht]
      by_cases hx : f < to
      · rw [if_pos hx, if_neg (by omega), if_pos (by omega)]
      · rw [if_neg hx, if_pos (by omega)]
  · rw [if_neg ho, if_pos this, if_neg (fun h => ho h.1), if_neg (fun h => ho h.1)]
theorem putK_none {c : List Slt} {x : Int} (h : ∀ s ∈ c, x < s.2.1) : c.filterMap (putK x) = [] := by
  rw [List.filterMap_eq_nil_iff]
  intro s hs
  unfold putK
  rw [if_neg (by have := h s hs; omega)]
theorem putK_with {s : Slt} (hs : s.1 < s.2.1) : ∀ {c : List Slt}, riseC c → fineC c → (∀ y ∈ c, s.2.1 ≤ y.1 ∨ y.2.1 ≤ s.1) → c.filterMap (putK s.1) ++ [s] ++ c.drop (c.filterMap (putK s.1)).length = withC s c
  | [], _, _, _ => by simp [withC]
  | y :: r, hr, hf, hc => by
    obtain ⟨h1, h2⟩ := List.pairwise_cons.1 hr
    have hy := hc y (by simp)
    have hfy := hf y (by simp)
    unfold withC
    by_cases h : y.2.1 ≤ s.1
    · have e : (y :: r).filterMap (putK s.1) = y :: r.filterMap (putK s.1) := by
        rw [List.filterMap_cons, putK, if_pos h]
      rw [e, if_neg (by omega)]
      have ih := putK_with hs h2 (fun z hz => hf z (by simp [hz])) (fun z hz => hc z (by simp [hz]))
      rw [← ih]
      simp
    · have e : (y :: r).filterMap (putK s.1) = [] := putK_none fun z hz => by
        rcases List.mem_cons.1 hz with rfl | hz
        · omega
        · have := h1 z hz
          have := hf z (by simp [hz])
          omega
      rw [e, if_pos (by omega)]
      simp

end Go.Proofs.Ytabhlmckncgdjaa

/-
  time.Meet, time.Within, time.Both: what each call answers.
-/
namespace Go.Proofs.Ytabhlmckncgdjaa
open Go.RowKit Go.Shelf

attribute [local go_sem] Oper.semAt_some ext_const

theorem tmeet_no {f t f' t' : Int} (w : World) (h : ¬ (maySp f t ∧ maySp f' t')) : Calls Try.prog 111 #[S2 f t, S2 f' t'] w fun e W' => e = .returned (.tuple #[.bool false, I 2]) ∧ Below w.heap.size w W' := by
  have H : Hid (∀ g w, Calls Try.prog 74 #[S2 f t, S2 f' t', g] w fun e W' => e = .returned (.tuple #[.bool false, I 2]) ∧ Below w.heap.size w W') := fun g w => ask_no g w h
  clear h
  go_enter Try.func111, Try.ntmps111
  go_wp2_with fail
  obtain ⟨W, hW, hB0, b0, b1⟩ := two_start w (C2 f t) (C2 f' t') 36 36
  rw [hW]
  clear hW
  refine (H.out _ _).mono ?_
  rintro e w1 ⟨rfl, hT⟩
  go_wp2
  go_ret2
  exact ⟨rfl, then_below hB0 hT⟩

theorem tmeet_yes {f t f' t' : Int} (w : World) (h : maySp f t) (h' : maySp f' t') : Calls Try.prog 111 #[S2 f t, S2 f' t'] w fun e W' => e = .returned (.tuple #[.bool (meetsT f t f' t'), I 0]) ∧ Below w.heap.size w W' := by
  have H : Hid (∀ w, Calls Try.prog 74 #[S2 f t, S2 f' t', .func (.func 120) #[] #[]] w fun e W' => e = .returned (.tuple #[.bool (meetsT f t f' t'), I 0]) ∧ Below w.heap.size w W') := fun w => ask_meet w h h'
  clear h h'
  generalize meetsT f t f' t' = r at *
  go_enter Try.func111, Try.ntmps111
  go_wp2_with fail
  obtain ⟨W, hW, hB0, b0, b1⟩ := two_start w (C2 f t) (C2 f' t') 36 36
  rw [hW]
  clear hW
  refine (H.out _).mono ?_
  rintro e w1 ⟨rfl, hT⟩
  go_wp2
  go_ret2
  exact ⟨rfl, then_below hB0 hT⟩

theorem twithin_no {f t f' t' : Int} (w : World) (h : ¬ (maySp f t ∧ maySp f' t')) : Calls Try.prog 33 #[S2 f t, S2 f' t'] w fun e W' => e = .returned (.tuple #[.bool false, I 2]) ∧ Below w.heap.size w W' := by
  have H : Hid (∀ g w, Calls Try.prog 74 #[S2 f t, S2 f' t', g] w fun e W' => e = .returned (.tuple #[.bool false, I 2]) ∧ Below w.heap.size w W') := fun g w => ask_no g w h
  clear h
  go_enter Try.func33, Try.ntmps33
  go_wp2_with fail
  obtain ⟨W, hW, hB0, b0, b1⟩ := two_start w (C2 f t) (C2 f' t') 36 36
  rw [hW]
  clear hW
  refine (H.out _ _).mono ?_
  rintro e w1 ⟨rfl, hT⟩
  go_wp2
  go_ret2
  exact ⟨rfl, then_below hB0 hT⟩

theorem twithin_yes {f t f' t' : Int} (w : World) (h : maySp f t) (h' : maySp f' t') : Calls Try.prog 33 #[S2 f t, S2 f' t'] w fun e W' => e = .returned (.tuple #[.bool (wiT f t f' t'), I 0]) ∧ Below w.heap.size w W' := by
  have H : Hid (∀ w A, Blk w A 36 (C2 f t) → Calls Try.prog 74 #[S2 f t, S2 f' t', .func (.func 75) #[] #[.pointer (some ⟨A, 0, none⟩)]] w fun e W' => e = .returned (.tuple #[.bool (wiT f t f' t'), I 0]) ∧ Below w.heap.size w W') := fun w A ha => ask_within ha h h'
  clear h h'
  generalize wiT f t f' t' = r at *
  go_enter Try.func33, Try.ntmps33
  go_wp2_with fail
  obtain ⟨W, hW, hB0, b0, b1⟩ := two_start w (C2 f t) (C2 f' t') 36 36
  rw [hW]
  clear hW
  refine (H.out _ _ b0).mono ?_
  rintro e w1 ⟨rfl, hT⟩
  go_wp2
  go_ret2
  exact ⟨rfl, then_below hB0 hT⟩

end Go.Proofs.Ytabhlmckncgdjaa
