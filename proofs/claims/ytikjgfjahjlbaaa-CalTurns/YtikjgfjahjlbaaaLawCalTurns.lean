/-
  CalTurns walked. (Written by tools/gen/cal_turns.py.)
-/
import Derived.Test.YtikjgfjahjlbaaaCalBoth
namespace Go.Proofs.Ytikjgfjahjlbaaa
open Go Go.RowKit Go.Shelf

attribute [local go_sem] Oper.semAt_some ext_const

set_option maxRecDepth 100000 in
set_option maxHeartbeats 32000000 in
theorem calTurns_in {xs : List Slt} {v : Value} {f t o ow to : Int} (w : World) (hS : Ss w v xs) (hn : xs.length ≤ 5000) :
    Calls Try.prog 4 #[v, V3 f t o, I ow, I to] w fun e W' => e = .returned (.bool true) ∧ Below w.heap.size w W' := by
  obtain ⟨ao, cap, rfl, hS⟩ := hS.form
  obtain ⟨W, hW, hB0, hK⟩ := one_start w (C3 f t o) 36
  have HS : Hid (Ss W (.slice ao xs.length cap) xs) := hS.later hB0
  have hWs : W.heap.size = w.heap.size + 1 := by rw [← hW]; simp
  have HZ : Hid (So ((w.alloc (.cells (C3 f t o) 36)).alloc (.cells #[] 36)) (w.heap.size + 1) (.slice (some ⟨w.heap.size + 1, 0, none⟩) 0 0) []) := by
    rw [hW, ← hWs]; exact So.zero W _ (Nat.le_refl _)
  have HSZ : Hid (Ss ((w.alloc (.cells (C3 f t o) 36)).alloc (.cells #[] 36)) (.slice ao xs.length cap) xs) := by
    rw [hW]; exact HS.out.later ((Below.refl _ W).alloc (Nat.le_refl _) _)
  have HB2 : Hid (∀ w0, Below (w.heap.size + 1) ((w.alloc (.cells (C3 f t o) 36)).alloc (.cells #[] 36)) w0 → Below W.heap.size W w0) := fun w0 h => by
    rw [hW, ← hWs] at h; exact ((Below.refl _ W).alloc (Nat.le_refl _) _).trans h
  have hzz : w.heap.size + 1 ≤ ((w.alloc (.cells (C3 f t o) 36)).alloc (.cells #[] 36)).heap.size := by simp
  have hl0 : ([] : List Slt).length + xs.length ≤ 100000 := by simp; omega
  clear hS hW hWs
  have hg5 : decide ((5000 : Int) < (xs.length : Int)) = false := decide_eq_false (by omega)
  have HP : Hid (∀ w v, Ss w v xs → Calls Try.prog 17 #[v, V3 f t o] w fun e W' => ∃ u, e = .returned (.tuple #[u, I (putE xs (f, t, o))]) ∧ So W' w.heap.size u (putL xs (f, t, o)) ∧ Below w.heap.size w W') := fun w v h => cput_all w h
  have HP' : Hid (∀ w v, Ss w v xs → Calls Try.prog 18 #[v, V3 f t o] w fun e W' => ∃ u, e = .returned (.tuple #[u, I (putE xs (f, t, o))]) ∧ So W' w.heap.size u (putL xs (f, t, o)) ∧ Below w.heap.size w W') := fun w v h => rput_all w h (by omega)
  have HX : Hid (∀ w v, Ss w v xs → Calls Try.prog 13 #[v, I ow] w fun e W' => ∃ u, e = .returned (.tuple #[u, I (errC xs)]) ∧ So W' w.heap.size u (takeL xs ow) ∧ Below w.heap.size w W') := fun w v h => ctake_all w h
  have HX' : Hid (∀ w v, Ss w v xs → Calls Try.prog 19 #[v, I ow] w fun e W' => ∃ u, e = .returned (.tuple #[u, I (errC xs)]) ∧ So W' w.heap.size u (takeL xs ow) ∧ Below w.heap.size w W') := fun w v h => rtake_all w h (by omega)
  have HY : Hid (∀ w v, Ss w v xs → Calls Try.prog 12 #[v, I ow, I to] w fun e W' => ∃ u, e = .returned (.tuple #[u, I (errC xs)]) ∧ So W' w.heap.size u (cutL xs ow to) ∧ Below w.heap.size w W') := fun w v h => ccut_all w h
  have HY' : Hid (∀ w v, Ss w v xs → Calls Try.prog 20 #[v, I ow, I to] w fun e W' => ∃ u, e = .returned (.tuple #[u, I (errC xs)]) ∧ So W' w.heap.size u (cutL xs ow to) ∧ Below w.heap.size w W') := fun w v h => rcut_all w h (by omega)
  have HE : Hid (∀ w v, Ss w v xs → Calls Try.prog 21 #[v] w fun e W' => e = .returned (I (errC xs)) ∧ Below w.heap.size w W') := fun w v h => ccheck_calls w h
  have HE' : Hid (∀ w v, Ss w v xs → Calls Try.prog 22 #[v] w fun e W' => e = .returned (I (errC xs)) ∧ Below w.heap.size w W') := fun w v h => rcheckC_calls w h (by omega)
  have HM : Hid (∀ w u v (ys : List Slt), ys.length ≤ 100000 → Ss w u ys → Ss w v ys → Calls Try.prog 15 #[u, v] w fun e W' => e = .returned (.bool true) ∧ Below w.heap.size w W') := fun w u v ys hy h h' => same_true w h h' hy
  have HL1 : Hid ((putL xs (f, t, o)).length ≤ 6000) := Nat.le_trans (withC_few _ _) (by omega)
  have HL2 : Hid ((takeL xs ow).length ≤ 6000) := Nat.le_trans (takeL_few _ _) (by omega)
  have HL3 : Hid ((cutL xs ow to).length ≤ 6000) := Nat.le_trans (cutL_few _ _ _) (by omega)
  generalize putE xs (f, t, o) = q0 at *
  generalize errC xs = q1 at *
  generalize putL xs (f, t, o) = LA at *
  generalize takeL xs ow = LD at *
  generalize cutL xs ow to = LJ at *
  go_enter Try.func4, Try.ntmps4
  go_wp2_with (at_builtin; refine wpList_catS (base := w.heap.size + 1) (xs := []) (ys := xs) rfl _ _ rfl rfl rfl HZ.out HSZ.out hl0 hzz ?_; intro aO nO cO w0 hO hBO; have hB := HB2.out _ hBO; have HO : Hid (Ss w0 (.slice aO nO cO) xs) := hO.ss; obtain ⟨hz, c0, c1, c2⟩ := (hK.later hB).at3.cells)
  have HC : Hid (Ss w0 (.slice ao xs.length cap) xs) := HS.out.later hB
  have HK : Hid (Blk w0 w.heap.size 36 (C3 f t o)) := hK.later hB
  have hT := then_below hB0 hB
  have HO0 : Hid (Ss w0 (.slice aO nO cO) xs) := HO
  have HC0 : Hid (Ss w0 (.slice ao xs.length cap) xs) := HC
  have hT0 := Below.refl w0.heap.size w0
  clear hO hBO hB
  refine (HP.out _ _ HO.out).mono ?_
  rintro e w1 ⟨ua, rfl, hQ, hB⟩
  have HO : Hid (Ss w1 (.slice aO nO cO) xs) := HO.out.later hB
  have HC : Hid (Ss w1 (.slice ao xs.length cap) xs) := HC.out.later hB
  have HK : Hid (Blk w1 w.heap.size 36 (C3 f t o)) := HK.out.later hB
  have hT0 := then_below hT0 hB
  have HQA : Hid (So w1 w0.heap.size ua LA) := hQ
  have hTHQA := Below.refl w1.heap.size w1
  have HA : Hid (Ss w1 ua LA) := hQ.ss
  clear hQ
  clear hB
  clear hz c0 c1 c2
  obtain ⟨hz, c0, c1, c2⟩ := HK.out.at3.cells
  go_wp2_with fail
  refine (HP'.out _ _ HC.out).mono ?_
  rintro e w2 ⟨ub, rfl, hQ, hB⟩
  have HSZ2 : Hid (w0.heap.size ≤ w2.heap.size ∧ w1.heap.size ≤ w2.heap.size) := ⟨Nat.le_trans hT0.size hB.size, hB.size⟩
  have HO : Hid (Ss w2 (.slice aO nO cO) xs) := HO.out.later hB
  have HC : Hid (Ss w2 (.slice ao xs.length cap) xs) := HC.out.later hB
  have HK : Hid (Blk w2 w.heap.size 36 (C3 f t o)) := HK.out.later hB
  have HA : Hid (Ss w2 ua LA) := HA.out.later hB
  have hT0 := then_below hT0 hB
  have hTHQA := then_below hTHQA hB
  have HB : Hid (Ss w2 ub LA) := hQ.ss
  clear hQ
  clear hB
  clear hz c0 c1 c2
  go_wp2_with fail
  refine (HX.out _ _ HO.out).mono ?_
  rintro e w3 ⟨ud, rfl, hQ, hB⟩
  have HO : Hid (Ss w3 (.slice aO nO cO) xs) := HO.out.later hB
  have HC : Hid (Ss w3 (.slice ao xs.length cap) xs) := HC.out.later hB
  have HA : Hid (Ss w3 ua LA) := HA.out.later hB
  have HB : Hid (Ss w3 ub LA) := HB.out.later hB
  have hT0 := then_below hT0 hB
  have hTHQA := then_below hTHQA hB
  have HQD : Hid (So w3 w2.heap.size ud LD) := hQ
  have hTHQD := Below.refl w3.heap.size w3
  have HD : Hid (Ss w3 ud LD) := hQ.ss
  clear hQ
  clear hB
  go_wp2_with fail
  refine (HX'.out _ _ HC.out).mono ?_
  rintro e w4 ⟨uh, rfl, hQ, hB⟩
  have HO : Hid (Ss w4 (.slice aO nO cO) xs) := HO.out.later hB
  have HC : Hid (Ss w4 (.slice ao xs.length cap) xs) := HC.out.later hB
  have HA : Hid (Ss w4 ua LA) := HA.out.later hB
  have HB : Hid (Ss w4 ub LA) := HB.out.later hB
  have HD : Hid (Ss w4 ud LD) := HD.out.later hB
  have hT0 := then_below hT0 hB
  have hTHQA := then_below hTHQA hB
  have hTHQD := then_below hTHQD hB
  have HH : Hid (Ss w4 uh LD) := hQ.ss
  clear hQ
  clear hB
  go_wp2_with fail
  refine (HY.out _ _ HO.out).mono ?_
  rintro e w5 ⟨uj, rfl, hQ, hB⟩
  have HO : Hid (Ss w5 (.slice aO nO cO) xs) := HO.out.later hB
  have HC : Hid (Ss w5 (.slice ao xs.length cap) xs) := HC.out.later hB
  have HA : Hid (Ss w5 ua LA) := HA.out.later hB
  have HB : Hid (Ss w5 ub LA) := HB.out.later hB
  have HD : Hid (Ss w5 ud LD) := HD.out.later hB
  have HH : Hid (Ss w5 uh LD) := HH.out.later hB
  have hT0 := then_below hT0 hB
  have hTHQA := then_below hTHQA hB
  have hTHQD := then_below hTHQD hB
  have HJ : Hid (Ss w5 uj LJ) := hQ.ss
  clear hQ
  clear hB
  go_wp2_with fail
  refine (HY'.out _ _ HC.out).mono ?_
  rintro e w6 ⟨ul, rfl, hQ, hB⟩
  have HO : Hid (Ss w6 (.slice aO nO cO) xs) := HO.out.later hB
  have HC : Hid (Ss w6 (.slice ao xs.length cap) xs) := HC.out.later hB
  have HA : Hid (Ss w6 ua LA) := HA.out.later hB
  have HB : Hid (Ss w6 ub LA) := HB.out.later hB
  have HD : Hid (Ss w6 ud LD) := HD.out.later hB
  have HH : Hid (Ss w6 uh LD) := HH.out.later hB
  have HJ : Hid (Ss w6 uj LJ) := HJ.out.later hB
  have hT0 := then_below hT0 hB
  have hTHQA := then_below hTHQA hB
  have hTHQD := then_below hTHQD hB
  have HLl : Hid (Ss w6 ul LJ) := hQ.ss
  clear hQ
  clear hB
  go_wp2_with fail
  refine (HE.out _ _ HO.out).mono ?_
  rintro e w7 ⟨rfl, hB⟩
  have HO : Hid (Ss w7 (.slice aO nO cO) xs) := HO.out.later hB
  have HC : Hid (Ss w7 (.slice ao xs.length cap) xs) := HC.out.later hB
  have HA : Hid (Ss w7 ua LA) := HA.out.later hB
  have HB : Hid (Ss w7 ub LA) := HB.out.later hB
  have HD : Hid (Ss w7 ud LD) := HD.out.later hB
  have HH : Hid (Ss w7 uh LD) := HH.out.later hB
  have HJ : Hid (Ss w7 uj LJ) := HJ.out.later hB
  have HLl : Hid (Ss w7 ul LJ) := HLl.out.later hB
  have hT0 := then_below hT0 hB
  have hTHQA := then_below hTHQA hB
  have hTHQD := then_below hTHQD hB
  clear hB
  go_wp2_with fail
  refine (HE'.out _ _ HC.out).mono ?_
  rintro e w8 ⟨rfl, hB⟩
  have HO : Hid (Ss w8 (.slice aO nO cO) xs) := HO.out.later hB
  have HC : Hid (Ss w8 (.slice ao xs.length cap) xs) := HC.out.later hB
  have HA : Hid (Ss w8 ua LA) := HA.out.later hB
  have HB : Hid (Ss w8 ub LA) := HB.out.later hB
  have HD : Hid (Ss w8 ud LD) := HD.out.later hB
  have HH : Hid (Ss w8 uh LD) := HH.out.later hB
  have HJ : Hid (Ss w8 uj LJ) := HJ.out.later hB
  have HLl : Hid (Ss w8 ul LJ) := HLl.out.later hB
  have hT0 := then_below hT0 hB
  have hTHQA := then_below hTHQA hB
  have hTHQD := then_below hTHQD hB
  clear hB
  go_wp2_with fail
  refine (HM.out _ _ _ LA (Nat.le_trans HL1.out (by omega)) HA.out HB.out).mono ?_
  rintro e w9 ⟨rfl, hB⟩
  have HO : Hid (Ss w9 (.slice aO nO cO) xs) := HO.out.later hB
  have HC : Hid (Ss w9 (.slice ao xs.length cap) xs) := HC.out.later hB
  have HA : Hid (Ss w9 ua LA) := HA.out.later hB
  have HB : Hid (Ss w9 ub LA) := HB.out.later hB
  have HD : Hid (Ss w9 ud LD) := HD.out.later hB
  have HH : Hid (Ss w9 uh LD) := HH.out.later hB
  have HJ : Hid (Ss w9 uj LJ) := HJ.out.later hB
  have HLl : Hid (Ss w9 ul LJ) := HLl.out.later hB
  have hT0 := then_below hT0 hB
  have hTHQA := then_below hTHQA hB
  have hTHQD := then_below hTHQD hB
  clear hB
  go_wp2_with fail
  refine (HM.out _ _ _ LD (Nat.le_trans HL2.out (by omega)) HD.out HH.out).mono ?_
  rintro e w10 ⟨rfl, hB⟩
  have HO : Hid (Ss w10 (.slice aO nO cO) xs) := HO.out.later hB
  have HC : Hid (Ss w10 (.slice ao xs.length cap) xs) := HC.out.later hB
  have HA : Hid (Ss w10 ua LA) := HA.out.later hB
  have HB : Hid (Ss w10 ub LA) := HB.out.later hB
  have HD : Hid (Ss w10 ud LD) := HD.out.later hB
  have HH : Hid (Ss w10 uh LD) := HH.out.later hB
  have HJ : Hid (Ss w10 uj LJ) := HJ.out.later hB
  have HLl : Hid (Ss w10 ul LJ) := HLl.out.later hB
  have hT0 := then_below hT0 hB
  have hTHQA := then_below hTHQA hB
  have hTHQD := then_below hTHQD hB
  clear hB
  go_wp2_with fail
  refine (HM.out _ _ _ LJ (Nat.le_trans HL3.out (by omega)) HJ.out HLl.out).mono ?_
  rintro e w11 ⟨rfl, hB⟩
  have HO : Hid (Ss w11 (.slice aO nO cO) xs) := HO.out.later hB
  have HC : Hid (Ss w11 (.slice ao xs.length cap) xs) := HC.out.later hB
  have HA : Hid (Ss w11 ua LA) := HA.out.later hB
  have HB : Hid (Ss w11 ub LA) := HB.out.later hB
  have HD : Hid (Ss w11 ud LD) := HD.out.later hB
  have HH : Hid (Ss w11 uh LD) := HH.out.later hB
  have HJ : Hid (Ss w11 uj LJ) := HJ.out.later hB
  have HLl : Hid (Ss w11 ul LJ) := HLl.out.later hB
  have hT0 := then_below hT0 hB
  have hTHQA := then_below hTHQA hB
  have hTHQD := then_below hTHQD hB
  clear hB
  have HT : Hid (Below w.heap.size w w0) := hT
  clear hT HA HB HD HH HJ HLl HO HC
  have HTE : Hid (Below w0.heap.size w0 w11) := hT0
  have hla := HL1.out
  have hld := HL2.out
  rcases HQA.out.ownd with ⟨rfl, rfl⟩ | ⟨ga, ca, rfl, hga0, hOa1⟩
  · skip
    rcases HQD.out.ownd with ⟨rfl, rfl⟩ | ⟨gd, cd, rfl, hgd1, hOd3⟩
    · clear HQA HQD
      go_wp2
      go_loopw [23] (fun i wr => i = .int .i64 0 ∧ wr = w11) (fun i _ => 0)
      case atStart => exact ⟨rfl, rfl⟩
      case round =>
        obtain ⟨rfl, hwr⟩ := hrel
        obtain rfl := hwr.symm
        go_wp2
        go_loopw [24] (fun i wr => i = .int .i64 0 ∧ Below w0.heap.size w0 wr) (fun i _ => 0)
        case atStart => exact ⟨rfl, HTE.out⟩
        case round =>
          obtain ⟨rfl, hT9⟩ := hrel
          go_wp2_with fail
          refine (HM.out _ _ _ xs (by omega) (HO0.out.later hT9) (HC0.out.later hT9)).mono ?_
          rintro e wf ⟨rfl, hBf⟩
          go_wp2
          go_ret
          exact ⟨rfl, then_below HT.out (then_below hT9 hBf)⟩
    · have hOd := hOd3.later hTHQD
      have hgd0 : w0.heap.size ≤ gd := Nat.le_trans HSZ2.out.1 hgd1
      clear HQA HQD hOd3
      generalize LD.length = ld at *
      go_wp2
      go_loopw [23] (fun i wr => i = .int .i64 0 ∧ wr = w11) (fun i _ => 0)
      case atStart => exact ⟨rfl, rfl⟩
      case round =>
        obtain ⟨rfl, hwr⟩ := hrel
        obtain rfl := hwr.symm
        go_wp2
        go_loopw [24] (fun i wr => ∃ k : Nat, k ≤ ld ∧ i = .int .i64 k ∧ Ownd wr gd ld ∧ Below w0.heap.size w0 wr) (fun i _ => ld - (intOf i).toNat)
        case atStart => exact ⟨0, by omega, rfl, hOd, HTE.out⟩
        case round =>
          clear hOd
          obtain ⟨k, hk, rfl, hOd, hT9⟩ := hrel
          by_cases hlt : (k : Int) < (ld : Int)
          · obtain ⟨⟨z, hz⟩, hf⟩ := hOd.cell (k := k) (by omega)
            have hgl := hOd.lt
            have hWS := fun z => hOd.set (k * 3 + 2) z
            have hTS := fun z : Int => hT9.setCell (p := ⟨gd, k * 3 + 2, none⟩) hgd0 (.int .i64 z)
            go_wp2
            go_roundw
            case rel => exact ⟨k + 1, by omega, by go_num, hWS _, hTS _⟩
            case measure => simp [intOf]; omega
          · have hlt : decide ((k : Int) < (ld : Int)) = false := decide_eq_false hlt
            go_wp2_with fail
            refine (HM.out _ _ _ xs (by omega) (HO0.out.later hT9) (HC0.out.later hT9)).mono ?_
            rintro e wf ⟨rfl, hBf⟩
            go_wp2
            go_ret
            exact ⟨rfl, then_below HT.out (then_below hT9 hBf)⟩
  · skip
    rcases HQD.out.ownd with ⟨rfl, rfl⟩ | ⟨gd, cd, rfl, hgd1, hOd3⟩
    · have hOa := hOa1.later hTHQA
      clear HQA HQD hOa1
      generalize LA.length = la at *
      go_wp2
      go_loopw [23] (fun i wr => ∃ k : Nat, k ≤ la ∧ i = .int .i64 k ∧ Ownd wr ga la ∧ Below w0.heap.size w0 wr) (fun i _ => la - (intOf i).toNat)
      case atStart => exact ⟨0, by omega, rfl, hOa, HTE.out⟩
      case round =>
        clear hOa
        obtain ⟨k, hk, rfl, hOa, hT8⟩ := hrel
        by_cases hlt : (k : Int) < (la : Int)
        · obtain ⟨⟨z, hz⟩, hf⟩ := hOa.cell (k := k) (by omega)
          have hgl := hOa.lt
          have hWS := fun z => hOa.set (k * 3 + 2) z
          have hTS := fun z : Int => hT8.setCell (p := ⟨ga, k * 3 + 2, none⟩) hga0 (.int .i64 z)
          go_wp2
          go_roundw
          case rel => exact ⟨k + 1, by omega, by go_num, hWS _, hTS _⟩
          case measure => simp [intOf]; omega
        · have hlt : decide ((k : Int) < (la : Int)) = false := decide_eq_false hlt
          go_wp2
          go_loopw [24] (fun i wr => i = .int .i64 0 ∧ Below w0.heap.size w0 wr) (fun i _ => 0)
          case atStart => exact ⟨rfl, hT8⟩
          case round =>
            obtain ⟨rfl, hT9⟩ := hrel
            go_wp2_with fail
            refine (HM.out _ _ _ xs (by omega) (HO0.out.later hT9) (HC0.out.later hT9)).mono ?_
            rintro e wf ⟨rfl, hBf⟩
            go_wp2
            go_ret
            exact ⟨rfl, then_below HT.out (then_below hT9 hBf)⟩
    · have hOd := hOd3.later hTHQD
      have hgd0 : w0.heap.size ≤ gd := Nat.le_trans HSZ2.out.1 hgd1
      have hOa := hOa1.later hTHQA
      have hne : gd ≠ ga := by have := hOa1.lt; have := HSZ2.out.2; omega
      clear HQA HQD hOa1 hOd3
      generalize LA.length = la at *
      generalize LD.length = ld at *
      go_wp2
      go_loopw [23] (fun i wr => ∃ k : Nat, k ≤ la ∧ i = .int .i64 k ∧ Ownd wr ga la ∧ Ownd wr gd ld ∧ Below w0.heap.size w0 wr) (fun i _ => la - (intOf i).toNat)
      case atStart => exact ⟨0, by omega, rfl, hOa, hOd, HTE.out⟩
      case round =>
        clear hOa hOd
        obtain ⟨k, hk, rfl, hOa, hOd, hT8⟩ := hrel
        by_cases hlt : (k : Int) < (la : Int)
        · obtain ⟨⟨z, hz⟩, hf⟩ := hOa.cell (k := k) (by omega)
          have hgl := hOa.lt
          have hWS := fun z => hOa.set (k * 3 + 2) z
          have hWD := fun z : Int => hOd.other hne (k * 3 + 2) (.int .i64 z)
          have hTS := fun z : Int => hT8.setCell (p := ⟨ga, k * 3 + 2, none⟩) hga0 (.int .i64 z)
          go_wp2
          go_roundw
          case rel => exact ⟨k + 1, by omega, by go_num, hWS _, hWD _, hTS _⟩
          case measure => simp [intOf]; omega
        · have hlt : decide ((k : Int) < (la : Int)) = false := decide_eq_false hlt
          go_wp2
          go_loopw [24] (fun i wr => ∃ k : Nat, k ≤ ld ∧ i = .int .i64 k ∧ Ownd wr gd ld ∧ Below w0.heap.size w0 wr) (fun i _ => ld - (intOf i).toNat)
          case atStart => exact ⟨0, by omega, rfl, hOd, hT8⟩
          case round =>
            clear hOd
            obtain ⟨k, hk, rfl, hOd, hT9⟩ := hrel
            by_cases hlt : (k : Int) < (ld : Int)
            · obtain ⟨⟨z, hz⟩, hf⟩ := hOd.cell (k := k) (by omega)
              have hgl := hOd.lt
              have hWS := fun z => hOd.set (k * 3 + 2) z
              have hTS := fun z : Int => hT9.setCell (p := ⟨gd, k * 3 + 2, none⟩) hgd0 (.int .i64 z)
              go_wp2
              go_roundw
              case rel => exact ⟨k + 1, by omega, by go_num, hWS _, hTS _⟩
              case measure => simp [intOf]; omega
            · have hlt : decide ((k : Int) < (ld : Int)) = false := decide_eq_false hlt
              go_wp2_with fail
              refine (HM.out _ _ _ xs (by omega) (HO0.out.later hT9) (HC0.out.later hT9)).mono ?_
              rintro e wf ⟨rfl, hBf⟩
              go_wp2
              go_ret
              exact ⟨rfl, then_below HT.out (then_below hT9 hBf)⟩

set_option maxRecDepth 100000 in
theorem calTurns_walk (f t o ow to : Int) (w : World) {xs : List Slt} {v : Value} (hS : Ss w v xs) :
    Calls Try.prog 4 #[v, V3 f t o, I ow, I to] w fun e W' => e = .returned (.bool true) ∧ Below w.heap.size w W' := by
  by_cases h : xs.length ≤ 5000
  · exact calTurns_in w hS h
  · obtain ⟨ao, cap, rfl, hS⟩ := hS.form
    have hB := (Below.refl _ w).alloc (Nat.le_refl _) (.cells (C3 f t o) 36)
    have e3 : (5000 : Int) < (xs.length : Int) := by omega
    clear hS h
    go_enter Try.func4, Try.ntmps4
    go_wp2
    go_ret
    exact ⟨rfl, hB⟩

end Go.Proofs.Ytikjgfjahjlbaaa
