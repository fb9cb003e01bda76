/-
  cal.keep over slots, handed the closure of Take, of Cut, of Put: the list of what stays. (Written by tools/gen/cal_keep.py.)
-/
import Derived.Test.YtikjgfjahjlbaaaCalClos
namespace Go.Proofs.Ytikjgfjahjlbaaa
open Go Go.RowKit Go.Shelf

attribute [local go_sem] Oper.semAt_some ext_const

theorem fm_snoc {st : Slt → Option Slt} {c : List Slt} {k : Nat} {s : Slt} (hk : k < c.length) (hs : c.getD k (0, 0, 0) = s) : (c.take (k + 1)).filterMap st = (c.take k).filterMap st ++ (st s).toList := by
  rw [take_snoc hk hs, List.filterMap_append]
  cases h : st s <;> simp [h]
theorem fm_len {st : Slt → Option Slt} {c : List Slt} {k : Nat} : ((c.take k).filterMap st).length ≤ c.length :=
  Nat.le_trans (List.length_filterMap_le _ _) (by rw [List.length_take]; omega)

set_option maxRecDepth 100000 in
set_option maxHeartbeats 8000000 in
theorem keep_take {xs : List Slt} {v : Value} {st : Slt → Option Slt} (w : World) (A : Nat) (hS : Ss w v xs) (hn : xs.length ≤ 100000)
    (hc : ∀ (wr : World) (f t o : Int), Below w.heap.size w wr → Calls Try.prog 31 #[V3 f t o, .pointer (some ⟨A, 0, none⟩)] wr fun e W' => ∃ f' t' o' b, e = .returned (.tuple #[V3 f' t' o', .bool b]) ∧ Hid (b = true → st (f, t, o) = some (f', t', o')) ∧ Hid (b = false → st (f, t, o) = none) ∧ Below wr.heap.size wr W') :
    Calls Try.prog 29 #[v, .func (.func 31) #[] #[.pointer (some ⟨A, 0, none⟩)]] w fun e W' => ∃ u, e = .returned u ∧ So W' w.heap.size u (xs.filterMap st) ∧ Below w.heap.size w W' := by
  obtain ⟨ao, cap, rfl, hS⟩ := hS.form
  have HS : Hid (Ss w (.slice ao xs.length cap) xs) := hS
  have HC : Hid (∀ (wr : World) (f t o : Int), Below w.heap.size w wr → Calls Try.prog 31 #[V3 f t o, .pointer (some ⟨A, 0, none⟩)] wr fun e W' => ∃ f' t' o' b, e = .returned (.tuple #[V3 f' t' o', .bool b]) ∧ Hid (b = true → st (f, t, o) = some (f', t', o')) ∧ Hid (b = false → st (f, t, o) = none) ∧ Below wr.heap.size wr W') := hc
  clear hS hc
  have HE : Hid ((xs.take xs.length).filterMap st = xs.filterMap st) := by show _ = _; rw [List.take_length]
  generalize xs.filterMap st = tgt at HE ⊢
  go_enter Try.func29, Try.ntmps29
  go_wp2_with (at_make; refine wpList_mkS (base := w.heap.size) rfl _ _ rfl xs.length rfl rfl (by omega) (by omega) (Nat.le_refl _) ?_; intro ao1 cap1 w1 hL1 hT1)
  go_loopw [5, 15] (fun u i wr => ∃ (k : Nat) (ao' : Option Addr) (n' cap' : Nat) (ys : List Slt), k ≤ xs.length ∧ i = .int .i64 k ∧ u = .slice ao' n' cap' ∧ Hid (So wr w.heap.size (.slice ao' n' cap') ys) ∧ Hid (ys = (xs.take k).filterMap st) ∧ Below w.heap.size w wr) (fun _ i _ => xs.length - (intOf i).toNat)
  case atStart => exact ⟨0, _, _, _, [], by omega, rfl, rfl, hL1, by show _ = _; simp, hT1⟩
  case round =>
    obtain ⟨k, ao', n', cap', ys, hk, rfl, rfl, HY, HF, hT⟩ := hrel
    by_cases hlt : (k : Int) < (xs.length : Int)
    · have hk' : k < xs.length := by omega
      obtain ⟨g, off, f, t, o, rfl, hu, ha⟩ := (HS.out.later hT).at hk'
      obtain ⟨hg, c0, c1, c2⟩ := ha.cells
      have HU : Hid ((xs.take (k + 1)).filterMap st = ys ++ (st (f, t, o)).toList) := by show _ = _; rw [fm_snoc hk' hu, HF.out]
      have hBN := (Below.refl _ wr).alloc (Nat.le_refl _) (.cells (C3 f t o) 36)
      have hyl : ys.length ≤ 100000 := by rw [HF.out]; exact Nat.le_trans fm_len hn
      clear hu ha
      have HC1 : Hid (Calls Try.prog 31 #[V3 f t o, .pointer (some ⟨A, 0, none⟩)] (wr.alloc (.cells (C3 f t o) 36)) fun e W' => ∃ f' t' o' b, e = .returned (.tuple #[V3 f' t' o', .bool b]) ∧ Hid (b = true → st (f, t, o) = some (f', t', o')) ∧ Hid (b = false → st (f, t, o) = none) ∧ Below (wr.alloc (.cells (C3 f t o) 36)).heap.size (wr.alloc (.cells (C3 f t o) 36)) W') := HC.out _ f t o (then_below hT hBN)
      go_wp2_with fail
      refine HC1.out.mono ?_
      rintro e w2 ⟨f', t', o', b, rfl, H1, H0, hB2⟩
      have hT2 := then_below hBN hB2
      have hBN2 := (Below.refl _ w2).alloc (Nat.le_refl _) (.cells (C3 f' t' o') 36)
      have hT3 := then_below hT2 hBN2
      have hz3 : w.heap.size ≤ (w2.alloc (.cells (C3 f' t' o') 36)).heap.size := Nat.le_trans hT.size hT3.size
      have HY3 : Hid (So (w2.alloc (.cells (C3 f' t' o') 36)) w.heap.size (.slice ao' n' cap') ys) := HY.out.later hT3
      have HT3 : Hid (Below w.heap.size w (w2.alloc (.cells (C3 f' t' o') 36))) := then_below hT hT3
      clear hB2 hT2 hBN2 hT3 hBN HC1 c0 c1 c2
      cases b
      · have hn1 := H0.out rfl
        have HK : Hid (ys = (xs.take (k + 1)).filterMap st) := by show _ = _; rw [HU.out, hn1]; simp
        clear H1 H0 hn1 HU
        go_wp2
        go_roundw
        case rel => exact ⟨k + 1, _, _, _, ys, by omega, by go_num, rfl, HY3.out, HK, HT3.out⟩
        case measure => simp [intOf]; omega
      · have hn1 := H1.out rfl
        have HK : Hid (ys ++ [(f', t', o')] = (xs.take (k + 1)).filterMap st) := by show _ = _; rw [HU.out, hn1]; simp
        clear H1 H0 hn1 HU
        go_wp2_with (first
          | (at_builtin; refine wpList_appS (base := w.heap.size) (xs := ys) rfl _ _ rfl rfl rfl (by simp) HY3.out hyl hz3 ?_; intro ao4 n4 cap4 w4 hW4 hB4)
          | go_in)
        go_roundw
        case rel => exact ⟨k + 1, _, _, _, _, by omega, by go_num, rfl, hW4, HK, HT3.out.trans hB4⟩
        case measure => simp [intOf]; omega
    · obtain rfl : k = xs.length := by omega
      have hE : ys = tgt := HF.out.trans HE.out
      subst hE
      have HY2 : Hid (So wr w.heap.size (.slice ao' n' cap') ys) := HY
      go_wp2
      go_ret
      exact ⟨_, rfl, HY2.out, hT⟩

set_option maxRecDepth 100000 in
set_option maxHeartbeats 8000000 in
theorem keep_put {xs : List Slt} {v : Value} {st : Slt → Option Slt} (w : World) (A : Nat) (hS : Ss w v xs) (hn : xs.length ≤ 100000)
    (hc : ∀ (wr : World) (f t o : Int), Below w.heap.size w wr → Calls Try.prog 34 #[V3 f t o, .pointer (some ⟨A, 0, none⟩)] wr fun e W' => ∃ f' t' o' b, e = .returned (.tuple #[V3 f' t' o', .bool b]) ∧ Hid (b = true → st (f, t, o) = some (f', t', o')) ∧ Hid (b = false → st (f, t, o) = none) ∧ Below wr.heap.size wr W') :
    Calls Try.prog 29 #[v, .func (.func 34) #[] #[.pointer (some ⟨A, 0, none⟩)]] w fun e W' => ∃ u, e = .returned u ∧ So W' w.heap.size u (xs.filterMap st) ∧ Below w.heap.size w W' := by
  obtain ⟨ao, cap, rfl, hS⟩ := hS.form
  have HS : Hid (Ss w (.slice ao xs.length cap) xs) := hS
  have HC : Hid (∀ (wr : World) (f t o : Int), Below w.heap.size w wr → Calls Try.prog 34 #[V3 f t o, .pointer (some ⟨A, 0, none⟩)] wr fun e W' => ∃ f' t' o' b, e = .returned (.tuple #[V3 f' t' o', .bool b]) ∧ Hid (b = true → st (f, t, o) = some (f', t', o')) ∧ Hid (b = false → st (f, t, o) = none) ∧ Below wr.heap.size wr W') := hc
  clear hS hc
  have HE : Hid ((xs.take xs.length).filterMap st = xs.filterMap st) := by show _ = _; rw [List.take_length]
  generalize xs.filterMap st = tgt at HE ⊢
  go_enter Try.func29, Try.ntmps29
  go_wp2_with (at_make; refine wpList_mkS (base := w.heap.size) rfl _ _ rfl xs.length rfl rfl (by omega) (by omega) (Nat.le_refl _) ?_; intro ao1 cap1 w1 hL1 hT1)
  go_loopw [5, 15] (fun u i wr => ∃ (k : Nat) (ao' : Option Addr) (n' cap' : Nat) (ys : List Slt), k ≤ xs.length ∧ i = .int .i64 k ∧ u = .slice ao' n' cap' ∧ Hid (So wr w.heap.size (.slice ao' n' cap') ys) ∧ Hid (ys = (xs.take k).filterMap st) ∧ Below w.heap.size w wr) (fun _ i _ => xs.length - (intOf i).toNat)
  case atStart => exact ⟨0, _, _, _, [], by omega, rfl, rfl, hL1, by show _ = _; simp, hT1⟩
  case round =>
    obtain ⟨k, ao', n', cap', ys, hk, rfl, rfl, HY, HF, hT⟩ := hrel
    by_cases hlt : (k : Int) < (xs.length : Int)
    · have hk' : k < xs.length := by omega
      obtain ⟨g, off, f, t, o, rfl, hu, ha⟩ := (HS.out.later hT).at hk'
      obtain ⟨hg, c0, c1, c2⟩ := ha.cells
      have HU : Hid ((xs.take (k + 1)).filterMap st = ys ++ (st (f, t, o)).toList) := by show _ = _; rw [fm_snoc hk' hu, HF.out]
      have hBN := (Below.refl _ wr).alloc (Nat.le_refl _) (.cells (C3 f t o) 36)
      have hyl : ys.length ≤ 100000 := by rw [HF.out]; exact Nat.le_trans fm_len hn
      clear hu ha
      have HC1 : Hid (Calls Try.prog 34 #[V3 f t o, .pointer (some ⟨A, 0, none⟩)] (wr.alloc (.cells (C3 f t o) 36)) fun e W' => ∃ f' t' o' b, e = .returned (.tuple #[V3 f' t' o', .bool b]) ∧ Hid (b = true → st (f, t, o) = some (f', t', o')) ∧ Hid (b = false → st (f, t, o) = none) ∧ Below (wr.alloc (.cells (C3 f t o) 36)).heap.size (wr.alloc (.cells (C3 f t o) 36)) W') := HC.out _ f t o (then_below hT hBN)
      go_wp2_with fail
      refine HC1.out.mono ?_
      rintro e w2 ⟨f', t', o', b, rfl, H1, H0, hB2⟩
      have hT2 := then_below hBN hB2
      have hBN2 := (Below.refl _ w2).alloc (Nat.le_refl _) (.cells (C3 f' t' o') 36)
      have hT3 := then_below hT2 hBN2
      have hz3 : w.heap.size ≤ (w2.alloc (.cells (C3 f' t' o') 36)).heap.size := Nat.le_trans hT.size hT3.size
      have HY3 : Hid (So (w2.alloc (.cells (C3 f' t' o') 36)) w.heap.size (.slice ao' n' cap') ys) := HY.out.later hT3
      have HT3 : Hid (Below w.heap.size w (w2.alloc (.cells (C3 f' t' o') 36))) := then_below hT hT3
      clear hB2 hT2 hBN2 hT3 hBN HC1 c0 c1 c2
      cases b
      · have hn1 := H0.out rfl
        have HK : Hid (ys = (xs.take (k + 1)).filterMap st) := by show _ = _; rw [HU.out, hn1]; simp
        clear H1 H0 hn1 HU
        go_wp2
        go_roundw
        case rel => exact ⟨k + 1, _, _, _, ys, by omega, by go_num, rfl, HY3.out, HK, HT3.out⟩
        case measure => simp [intOf]; omega
      · have hn1 := H1.out rfl
        have HK : Hid (ys ++ [(f', t', o')] = (xs.take (k + 1)).filterMap st) := by show _ = _; rw [HU.out, hn1]; simp
        clear H1 H0 hn1 HU
        go_wp2_with (first
          | (at_builtin; refine wpList_appS (base := w.heap.size) (xs := ys) rfl _ _ rfl rfl rfl (by simp) HY3.out hyl hz3 ?_; intro ao4 n4 cap4 w4 hW4 hB4)
          | go_in)
        go_roundw
        case rel => exact ⟨k + 1, _, _, _, _, by omega, by go_num, rfl, hW4, HK, HT3.out.trans hB4⟩
        case measure => simp [intOf]; omega
    · obtain rfl : k = xs.length := by omega
      have hE : ys = tgt := HF.out.trans HE.out
      subst hE
      have HY2 : Hid (So wr w.heap.size (.slice ao' n' cap') ys) := HY
      go_wp2
      go_ret
      exact ⟨_, rfl, HY2.out, hT⟩

set_option maxRecDepth 100000 in
set_option maxHeartbeats 8000000 in
theorem keep_cut {xs : List Slt} {v : Value} {st : Slt → Option Slt} (w : World) (A B : Nat) (hS : Ss w v xs) (hn : xs.length ≤ 100000)
    (hc : ∀ (wr : World) (f t o : Int), Below w.heap.size w wr → Calls Try.prog 30 #[V3 f t o, .pointer (some ⟨A, 0, none⟩), .pointer (some ⟨B, 0, none⟩)] wr fun e W' => ∃ f' t' o' b, e = .returned (.tuple #[V3 f' t' o', .bool b]) ∧ Hid (b = true → st (f, t, o) = some (f', t', o')) ∧ Hid (b = false → st (f, t, o) = none) ∧ Below wr.heap.size wr W') :
    Calls Try.prog 29 #[v, .func (.func 30) #[] #[.pointer (some ⟨A, 0, none⟩), .pointer (some ⟨B, 0, none⟩)]] w fun e W' => ∃ u, e = .returned u ∧ So W' w.heap.size u (xs.filterMap st) ∧ Below w.heap.size w W' := by
  obtain ⟨ao, cap, rfl, hS⟩ := hS.form
  have HS : Hid (Ss w (.slice ao xs.length cap) xs) := hS
  have HC : Hid (∀ (wr : World) (f t o : Int), Below w.heap.size w wr → Calls Try.prog 30 #[V3 f t o, .pointer (some ⟨A, 0, none⟩), .pointer (some ⟨B, 0, none⟩)] wr fun e W' => ∃ f' t' o' b, e = .returned (.tuple #[V3 f' t' o', .bool b]) ∧ Hid (b = true → st (f, t, o) = some (f', t', o')) ∧ Hid (b = false → st (f, t, o) = none) ∧ Below wr.heap.size wr W') := hc
  clear hS hc
  have HE : Hid ((xs.take xs.length).filterMap st = xs.filterMap st) := by show _ = _; rw [List.take_length]
  generalize xs.filterMap st = tgt at HE ⊢
  go_enter Try.func29, Try.ntmps29
  go_wp2_with (at_make; refine wpList_mkS (base := w.heap.size) rfl _ _ rfl xs.length rfl rfl (by omega) (by omega) (Nat.le_refl _) ?_; intro ao1 cap1 w1 hL1 hT1)
  go_loopw [5, 15] (fun u i wr => ∃ (k : Nat) (ao' : Option Addr) (n' cap' : Nat) (ys : List Slt), k ≤ xs.length ∧ i = .int .i64 k ∧ u = .slice ao' n' cap' ∧ Hid (So wr w.heap.size (.slice ao' n' cap') ys) ∧ Hid (ys = (xs.take k).filterMap st) ∧ Below w.heap.size w wr) (fun _ i _ => xs.length - (intOf i).toNat)
  case atStart => exact ⟨0, _, _, _, [], by omega, rfl, rfl, hL1, by show _ = _; simp, hT1⟩
  case round =>
    obtain ⟨k, ao', n', cap', ys, hk, rfl, rfl, HY, HF, hT⟩ := hrel
    by_cases hlt : (k : Int) < (xs.length : Int)
    · have hk' : k < xs.length := by omega
      obtain ⟨g, off, f, t, o, rfl, hu, ha⟩ := (HS.out.later hT).at hk'
      obtain ⟨hg, c0, c1, c2⟩ := ha.cells
      have HU : Hid ((xs.take (k + 1)).filterMap st = ys ++ (st (f, t, o)).toList) := by show _ = _; rw [fm_snoc hk' hu, HF.out]
      have hBN := (Below.refl _ wr).alloc (Nat.le_refl _) (.cells (C3 f t o) 36)
      have hyl : ys.length ≤ 100000 := by rw [HF.out]; exact Nat.le_trans fm_len hn
      clear hu ha
      have HC1 : Hid (Calls Try.prog 30 #[V3 f t o, .pointer (some ⟨A, 0, none⟩), .pointer (some ⟨B, 0, none⟩)] (wr.alloc (.cells (C3 f t o) 36)) fun e W' => ∃ f' t' o' b, e = .returned (.tuple #[V3 f' t' o', .bool b]) ∧ Hid (b = true → st (f, t, o) = some (f', t', o')) ∧ Hid (b = false → st (f, t, o) = none) ∧ Below (wr.alloc (.cells (C3 f t o) 36)).heap.size (wr.alloc (.cells (C3 f t o) 36)) W') := HC.out _ f t o (then_below hT hBN)
      go_wp2_with fail
      refine HC1.out.mono ?_
      rintro e w2 ⟨f', t', o', b, rfl, H1, H0, hB2⟩
      have hT2 := then_below hBN hB2
      have hBN2 := (Below.refl _ w2).alloc (Nat.le_refl _) (.cells (C3 f' t' o') 36)
      have hT3 := then_below hT2 hBN2
      have hz3 : w.heap.size ≤ (w2.alloc (.cells (C3 f' t' o') 36)).heap.size := Nat.le_trans hT.size hT3.size
      have HY3 : Hid (So (w2.alloc (.cells (C3 f' t' o') 36)) w.heap.size (.slice ao' n' cap') ys) := HY.out.later hT3
      have HT3 : Hid (Below w.heap.size w (w2.alloc (.cells (C3 f' t' o') 36))) := then_below hT hT3
      clear hB2 hT2 hBN2 hT3 hBN HC1 c0 c1 c2
      cases b
      · have hn1 := H0.out rfl
        have HK : Hid (ys = (xs.take (k + 1)).filterMap st) := by show _ = _; rw [HU.out, hn1]; simp
        clear H1 H0 hn1 HU
        go_wp2
        go_roundw
        case rel => exact ⟨k + 1, _, _, _, ys, by omega, by go_num, rfl, HY3.out, HK, HT3.out⟩
        case measure => simp [intOf]; omega
      · have hn1 := H1.out rfl
        have HK : Hid (ys ++ [(f', t', o')] = (xs.take (k + 1)).filterMap st) := by show _ = _; rw [HU.out, hn1]; simp
        clear H1 H0 hn1 HU
        go_wp2_with (first
          | (at_builtin; refine wpList_appS (base := w.heap.size) (xs := ys) rfl _ _ rfl rfl rfl (by simp) HY3.out hyl hz3 ?_; intro ao4 n4 cap4 w4 hW4 hB4)
          | go_in)
        go_roundw
        case rel => exact ⟨k + 1, _, _, _, _, by omega, by go_num, rfl, hW4, HK, HT3.out.trans hB4⟩
        case measure => simp [intOf]; omega
    · obtain rfl : k = xs.length := by omega
      have hE : ys = tgt := HF.out.trans HE.out
      subst hE
      have HY2 : Hid (So wr w.heap.size (.slice ao' n' cap') ys) := HY
      go_wp2
      go_ret
      exact ⟨_, rfl, HY2.out, hT⟩

end Go.Proofs.Ytikjgfjahjlbaaa
