/-
  tidehallref13.Every, Free.
-/
import Derived.Test.YtjmfdpilmljppaaPart17
import Derived.Test.YtjmfdpilmljppaaPart15
import Derived.Test.YtjmfdpilmljppaaPart6
import Derived.Laws.AppendOwn
import Derived.Laws.AppendOwnNone
namespace Go.Proofs.Ytjmfdpilmljppaa
open Go Go.RowKit Go.Shelf Go.Maps

attribute [local go_sem] Oper.semAt_some ext_const
attribute [local go_sem high] eq_box

/-- What Every has listed. -/
def evX (d0 d1 d2 : Int) (q : Bx → Bool) (m : Nat) (l : List Tz) : List Bx := (bxP d0 d1 d2 m ++ bxL d0 d1 d2 m l).filter q
theorem evX_yes {d0 d1 d2 : Int} {q : Bx → Bool} {m : Nat} {l : List Tz} {s : Tz} (h : (isCanon d0 d1 d2 (bxZ d0 d1 m s) && q (bxZ d0 d1 m s)) = true) : evX d0 d1 d2 q m (l ++ [s]) = evX d0 d1 d2 q m l ++ [bxZ d0 d1 m s] := by
  rw [Bool.and_eq_true] at h
  unfold evX
  rw [bxL_yes h.1, ← List.append_assoc, List.filter_append (l₁ := bxP d0 d1 d2 m ++ bxL d0 d1 d2 m l)]
  simp [h.2]
theorem evX_no {d0 d1 d2 : Int} {q : Bx → Bool} {m : Nat} {l : List Tz} {s : Tz} (h : (isCanon d0 d1 d2 (bxZ d0 d1 m s) && q (bxZ d0 d1 m s)) = false) : evX d0 d1 d2 q m (l ++ [s]) = evX d0 d1 d2 q m l := by
  unfold evX
  cases hc : isCanon d0 d1 d2 (bxZ d0 d1 m s)
  · rw [bxL_no hc]
  · rw [hc, Bool.true_and] at h
    rw [bxL_yes hc, ← List.append_assoc, List.filter_append (l₁ := bxP d0 d1 d2 m ++ bxL d0 d1 d2 m l)]
    simp [h]

set_option maxRecDepth 100000 in
set_option maxHeartbeats 16000000 in
theorem revery_calls {d0 d1 d2 : Int} {v : Value} {ws : List Nat} (w : World) (hd : mayD d0 d1 d2) (hv : Wds w v ws) (hn64 : d0 * d1 * d2 ≤ 64) :
    Calls Try.prog 35 #[A3 d0 d1 d2, v] w fun e W' => ∃ u, e = .returned u ∧ Lx W' w.heap.size u (freeL d0 d1 d2 ws) ∧ Below w.heap.size w W' := by
  have mixed : Try.prog.follows .mixedOrders = true := by kernel_rfl
  have hn := N_bd hd
  have HD : Hid (mayD d0 d1 d2) := hd
  have hdd := hd
  obtain ⟨⟨a1, a2⟩, ⟨b1, b2⟩, c1, c2⟩ := hdd
  obtain ⟨A, hA⟩ : ∃ A : Nat, d0 = A := ⟨d0.toNat, by omega⟩
  obtain ⟨B, hB⟩ : ∃ B : Nat, d1 = B := ⟨d1.toNat, by omega⟩
  obtain ⟨C, hC⟩ : ∃ C : Nat, d2 = C := ⟨d2.toNat, by omega⟩
  obtain ⟨N, hN⟩ : ∃ N : Nat, d0 * d1 * d2 = N := ⟨(d0 * d1 * d2).toNat, by omega⟩
  have HAll : Hid (allZ d0 d1 d2 = cubeZ B C A) := by
    show _ = _
    unfold allZ sizesZ
    rw [hA, hB, hC]
    simp only [Int.toNat_natCast]
  have HNm : Hid (∀ w, Calls Try.prog 34 #[A3 d0 d1 d2] w fun e W' => e = .returned (I N) ∧ Below w.heap.size w W') := fun w => by rw [← hN]; exact rn_calls w hd
  have HWh : Hid (∀ (m : Nat) (w : World), m < N → Calls Try.prog 63 #[A3 d0 d1 d2, I m] w fun e W' => e = .returned (A3 (cx d0 m) (cy d0 d1 m) (cz d0 d1 m)) ∧ Below w.heap.size w W') := fun m w h => rwhere_calls w hd ⟨by omega, by rw [hN]; omega⟩
  have HTo : Hid (∀ (b : Bx) (w : World), Calls Try.prog 41 #[A3 d0 d1 d2, B6 b] w fun e W' => e = .returned (B6 (canonB d0 d1 d2 b)) ∧ Below w.heap.size w W') := fun b w => rtold_calls d0 d1 d2 b w
  have HCl : Hid (∀ (b : Bx) (w1 : World), mayB d0 d1 d2 b → Below w.heap.size w w1 → Calls Try.prog 40 #[A3 d0 d1 d2, B6 b, v] w1 fun e W' => e = .returned (.bool (clearX d0 d1 d2 ws b)) ∧ Below w1.heap.size w1 W') := fun b w1 hb h1 => rgclear_calls w1 hd hb (hv.later h1)
  have HMay : Hid (∀ (m k i j : Nat), m < N → k < A → i < B → j < C → mayB d0 d1 d2 (bxZ d0 d1 m ((k : Int) + 1, (i : Int) + 1, (j : Int) + 1))) := fun m k i j h0 h1 h2 h3 => by
    obtain ⟨g1, g2, g3⟩ := inD_of_node hd (m := m) ⟨by omega, by rw [hN]; omega⟩
    refine ⟨⟨⟨?_, ?_⟩, g1⟩, ⟨⟨?_, ?_⟩, g2⟩, ⟨?_, ?_⟩, g3⟩
    · show (1 : Int) ≤ (k : Int) + 1; omega
    · show (k : Int) + 1 ≤ d0; omega
    · show (1 : Int) ≤ (i : Int) + 1; omega
    · show (i : Int) + 1 ≤ d1; omega
    · show (1 : Int) ≤ (j : Int) + 1; omega
    · show (j : Int) + 1 ≤ d2; omega
  have hbl : ∀ (m : Nat) (l : List Tz), m < N → l <+: allZ d0 d1 d2 → (evX d0 d1 d2 (clearX d0 d1 d2 ws) m l).length ≤ 262144 := fun m l hm hl => by
    unfold evX
    refine Nat.le_trans (List.length_filter_le _ _) ?_
    have h1 : bxP d0 d1 d2 m ++ bxL d0 d1 d2 m l <+: boxesZ d0 d1 d2 := by
      have h2 : bxP d0 d1 d2 (m + 1) <+: boxesZ d0 d1 d2 := flatG_pre _ (rangeG_pre (by rw [hN, Int.toNat_natCast]; exact hm))
      rw [bxP_succ] at h2
      exact (preG_append (filterG_pre _ (mapG_pre _ hl))).trans h2
    exact Nat.le_trans h1.length_le (boxesZ_len hd hn64)
  have HBl : Hid (∀ (m k i j : Nat), m < N → k < A → i < B → j < C → (evX d0 d1 d2 (clearX d0 d1 d2 ws) m (cubeZ B C k ++ (planeZ C k i ++ rowZ k i j))).length ≤ 262144) := fun m k i j h0 h1 h2 h3 => hbl m _ h0 ((List.prefix_append _ _).trans (by
    have := sizesZ_next (a := A) (b := B) (c := C) h1 h2 h3
    have e : allZ d0 d1 d2 = sizesZ A B C := HAll.out
    rw [e]
    exact this))
  have HSt : Hid (∀ (m k i j : Nat), ((isCanon d0 d1 d2 (bxZ d0 d1 m ((k : Int) + 1, (i : Int) + 1, (j : Int) + 1)) && clearX d0 d1 d2 ws (bxZ d0 d1 m ((k : Int) + 1, (i : Int) + 1, (j : Int) + 1))) = true → evX d0 d1 d2 (clearX d0 d1 d2 ws) m (cubeZ B C k ++ (planeZ C k i ++ rowZ k i (j + 1))) = evX d0 d1 d2 (clearX d0 d1 d2 ws) m (cubeZ B C k ++ (planeZ C k i ++ rowZ k i j)) ++ [bxZ d0 d1 m ((k : Int) + 1, (i : Int) + 1, (j : Int) + 1)]) ∧ ((isCanon d0 d1 d2 (bxZ d0 d1 m ((k : Int) + 1, (i : Int) + 1, (j : Int) + 1)) && clearX d0 d1 d2 ws (bxZ d0 d1 m ((k : Int) + 1, (i : Int) + 1, (j : Int) + 1))) = false → evX d0 d1 d2 (clearX d0 d1 d2 ws) m (cubeZ B C k ++ (planeZ C k i ++ rowZ k i (j + 1))) = evX d0 d1 d2 (clearX d0 d1 d2 ws) m (cubeZ B C k ++ (planeZ C k i ++ rowZ k i j)))) := fun m k i j => by
    rw [rowZ_succ, ← List.append_assoc (planeZ C k i), ← List.append_assoc (cubeZ B C k)]
    exact ⟨fun h => evX_yes h, fun h => evX_no h⟩
  have E0 : Hid (∀ m, evX d0 d1 d2 (clearX d0 d1 d2 ws) m (cubeZ B C 0) = (bxP d0 d1 d2 m).filter (clearX d0 d1 d2 ws)) := fun m => by simp [evX, cubeZ, bxL]
  have E1 : Hid (∀ m k, evX d0 d1 d2 (clearX d0 d1 d2 ws) m (cubeZ B C k ++ planeZ C k 0) = evX d0 d1 d2 (clearX d0 d1 d2 ws) m (cubeZ B C k)) := fun m k => by simp [planeZ]
  have E2 : Hid (∀ m k i, evX d0 d1 d2 (clearX d0 d1 d2 ws) m (cubeZ B C k ++ (planeZ C k i ++ rowZ k i 0)) = evX d0 d1 d2 (clearX d0 d1 d2 ws) m (cubeZ B C k ++ planeZ C k i)) := fun m k i => by simp [rowZ]
  have F2 : Hid (∀ m k i, evX d0 d1 d2 (clearX d0 d1 d2 ws) m (cubeZ B C k ++ (planeZ C k i ++ rowZ k i C)) = evX d0 d1 d2 (clearX d0 d1 d2 ws) m (cubeZ B C k ++ planeZ C k (i + 1))) := fun m k i => by rw [planeZ_succ]
  have F1 : Hid (∀ m k, evX d0 d1 d2 (clearX d0 d1 d2 ws) m (cubeZ B C k ++ planeZ C k B) = evX d0 d1 d2 (clearX d0 d1 d2 ws) m (cubeZ B C (k + 1))) := fun m k => by rw [cubeZ_succ]
  have F0 : Hid (∀ m, evX d0 d1 d2 (clearX d0 d1 d2 ws) m (cubeZ B C A) = (bxP d0 d1 d2 (m + 1)).filter (clearX d0 d1 d2 ws)) := fun m => by rw [bxP_succ, HAll.out]; rfl
  have HFin : Hid ((bxP d0 d1 d2 N).filter (clearX d0 d1 d2 ws) = freeL d0 d1 d2 ws) := by
    show _ = _
    unfold freeL boxesZ
    rw [hN, Int.toNat_natCast]
  obtain ⟨ao, cap, rfl, _⟩ := hv.view
  have HdA : Hid (d0 = A ∧ d1 = B ∧ d2 = C) := ⟨hA, hB, hC⟩
  clear hd hv hbl hn64
  generalize clearX d0 d1 d2 ws = q at *
  generalize hEv : evX d0 d1 d2 q = EV at *
  generalize freeL d0 d1 d2 ws = FL at *
  generalize hGP : (fun m => (bxP d0 d1 d2 m).filter q) = GP at *
  have hGP' : ∀ m, (bxP d0 d1 d2 m).filter q = GP m := fun m => by rw [← hGP]
  simp only [hGP'] at E0 F0 HFin
  have hG0 : GP 0 = [] := by rw [← hGP]; rfl
  clear hEv hGP hGP'
  have hA2 : (A : Int) ≤ 16 := by omega
  have hB2 : (B : Int) ≤ 16 := by omega
  have hC2 : (C : Int) ≤ 16 := by omega
  have hN2 : (N : Int) ≤ 4096 := by omega
  clear hn hN a1 a2 b1 b2 c1 c2
  subst hA hB hC
  generalize ws.length = n at *
  have hB0 : Below w.heap.size w (w.alloc (.cells #[I A, I B, I C] 26)) := (Below.refl _ w).alloc (Nat.le_refl _) _
  have b0 := Blk.new w 26 #[I A, I B, I C]
  go_enter Try.func35, Try.ntmps35
  go_wp2
  go_loopw [5, 6] (fun u i wr => ∃ (m : Nat), m ≤ N ∧ i = .int .i64 m ∧ Lx wr (w.heap.size + 1) u (GP m) ∧ Blk wr w.heap.size 26 #[I A, I B, I C] ∧ Hid (Below w.heap.size w wr)) (fun _ i _ => N - (RowKit.intOf i).toNat)
  case atStart => exact ⟨0, by omega, rfl, by rw [hG0]; exact Lx.nil _ _, b0, hB0⟩
  case round =>
    clear b0 hB0 hG0
    obtain ⟨m, hm, rfl, hL, b0, HB⟩ := hrel
    obtain ⟨lo, lc, rfl, hL2⟩ := hL.form
    obtain ⟨e0, e1, e2, ez⟩ := b0.three (Below.refl _ _)
    clear hL
    go_wp2_with fail
    refine (HNm.out _).mono ?_
    rintro e w1 ⟨rfl, hB⟩
    have b1 := b0.later hB
    have hL1 := hL2.later hB
    have HB1 : Hid (Below w.heap.size w w1) := then_below HB.out hB
    clear e0 e1 e2 ez b0 hL2 hB HB
    by_cases hlt : (m : Int) < (N : Int)
    · have hm2 : m < N := by omega
      have HL1 : Hid (Lx w1 (w.heap.size + 1) (.slice lo (GP m).length lc) (EV m (cubeZ B C 0))) := by
        rw [E0.out m]
        exact hL1
      clear hL1
      generalize (GP m).length = gl at *
      go_wp2
      go_loopw [5, 7] (fun u i wr => ∃ (k : Nat), k ≤ A ∧ i = .int .i64 ((k : Int) + 1) ∧ Lx wr (w.heap.size + 1) u (EV m (cubeZ B C k)) ∧ Blk wr w.heap.size 26 #[I A, I B, I C] ∧ Hid (Below w.heap.size w wr)) (fun _ i _ => A + 1 - (RowKit.intOf i).toNat)
      case atStart => exact ⟨0, by omega, rfl, HL1.out, b1, HB1.out⟩
      case round =>
        clear HL1 b1 HB1
        rename World => wr
        obtain ⟨k, hk, rfl, hL, b0, HB⟩ := hrel
        obtain ⟨lo2, lc2, rfl, hL2⟩ := hL.form
        obtain ⟨e0, e1, e2, ez⟩ := b0.three (Below.refl _ _)
        clear hL
        by_cases hltk : (k : Int) + 1 ≤ (A : Int)
        · have hk2 : k < A := by omega
          have HL1 : Hid (Lx wr (w.heap.size + 1) (.slice lo2 (EV m (cubeZ B C k)).length lc2) (EV m (cubeZ B C k ++ planeZ C k 0))) := by
            rw [E1.out m k]
            exact hL2
          have HB1 : Hid (Below w.heap.size w wr ∧ Blk wr w.heap.size 26 #[I A, I B, I C]) := ⟨HB.out, b0⟩
          clear hL2 HB b0
          generalize (EV m (cubeZ B C k)).length = gl2 at *
          go_wp2
          go_loopw [5, 8] (fun u i wr => ∃ (j : Nat), j ≤ B ∧ i = .int .i64 ((j : Int) + 1) ∧ Lx wr (w.heap.size + 1) u (EV m (cubeZ B C k ++ planeZ C k j)) ∧ Blk wr w.heap.size 26 #[I A, I B, I C] ∧ Hid (Below w.heap.size w wr)) (fun _ i _ => B + 1 - (RowKit.intOf i).toNat)
          case atStart => exact ⟨0, by omega, rfl, HL1.out, HB1.out.2, HB1.out.1⟩
          case round =>
            clear HL1 HB1 e0 e1 e2 ez
            rename World => wr
            obtain ⟨i, hi, rfl, hL, b0, HB⟩ := hrel
            obtain ⟨lo3, lc3, rfl, hL2⟩ := hL.form
            obtain ⟨e0, e1, e2, ez⟩ := b0.three (Below.refl _ _)
            clear hL
            by_cases hlti : (i : Int) + 1 ≤ (B : Int)
            · have hi2 : i < B := by omega
              have HL1 : Hid (Lx wr (w.heap.size + 1) (.slice lo3 (EV m (cubeZ B C k ++ planeZ C k i)).length lc3) (EV m (cubeZ B C k ++ (planeZ C k i ++ rowZ k i 0)))) := by
                rw [E2.out m k i]
                exact hL2
              have HB1 : Hid (Below w.heap.size w wr ∧ Blk wr w.heap.size 26 #[I A, I B, I C]) := ⟨HB.out, b0⟩
              clear hL2 HB b0
              generalize (EV m (cubeZ B C k ++ planeZ C k i)).length = gl3 at *
              go_wp2
              go_loopw [5, 9] (fun u i' wr => ∃ (j : Nat), j ≤ C ∧ i' = .int .i64 ((j : Int) + 1) ∧ Lx wr (w.heap.size + 1) u (EV m (cubeZ B C k ++ (planeZ C k i ++ rowZ k i j))) ∧ Blk wr w.heap.size 26 #[I A, I B, I C] ∧ Hid (Below w.heap.size w wr)) (fun _ i _ => C + 1 - (RowKit.intOf i).toNat)
              case atStart => exact ⟨0, by omega, rfl, HL1.out, HB1.out.2, HB1.out.1⟩
              case round =>
                clear HL1 HB1 e0 e1 e2 ez
                rename World => wr
                obtain ⟨j, hj, rfl, hL, b0, HB⟩ := hrel
                obtain ⟨lo4, lc4, rfl, hL2⟩ := hL.form
                obtain ⟨e0, e1, e2, ez⟩ := b0.three (Below.refl _ _)
                clear hL
                by_cases hltj : (j : Int) + 1 ≤ (C : Int)
                · have hj2 : j < C := by omega
                  have hfl : (EV m (cubeZ B C k ++ (planeZ C k i ++ rowZ k i j))).length ≤ 1000000 := Nat.le_trans (HBl.out m k i j hm2 hk2 hi2 hj2) (by omega)
                  have hmay := HMay.out m k i j hm2 hk2 hi2 hj2
                  have HSj := HSt.out m k i j
                  dsimp only [bxZ] at hmay HSj
                  have HWm : Hid (∀ w1, Calls Try.prog 63 #[A3 A B C, I m] w1 fun e W' => e = .returned (A3 (cx A m) (cy A B m) (cz A B m)) ∧ Below w1.heap.size w1 W') := fun w1 => HWh.out m w1 hm2
                  generalize hL1e : EV m (cubeZ B C k ++ (planeZ C k i ++ rowZ k i (j + 1))) = L1 at *
                  have HE1 : Hid (EV m (cubeZ B C k ++ (planeZ C k i ++ rowZ k i (j + 1))) = L1) := hL1e
                  clear hL1e
                  generalize EV m (cubeZ B C k ++ (planeZ C k i ++ rowZ k i j)) = L0 at *
                  generalize cx (A : Int) m = X at *
                  generalize cy (A : Int) B m = Y at *
                  generalize cz (A : Int) B m = Q at *
                  obtain ⟨kk, hkk⟩ : ∃ kk : Int, kk = (k : Int) + 1 := ⟨_, rfl⟩
                  obtain ⟨ii, hii⟩ : ∃ ii : Int, ii = (i : Int) + 1 := ⟨_, rfl⟩
                  obtain ⟨jj, hjj⟩ : ∃ jj : Int, jj = (j : Int) + 1 := ⟨_, rfl⟩
                  have HKK : Hid (kk = (k : Int) + 1 ∧ ii = (i : Int) + 1 ∧ jj = (j : Int) + 1) := ⟨hkk, hii, hjj⟩
                  rw [← hkk, ← hii, ← hjj] at HSj hmay
                  have hjb : jj ≤ (C : Int) := by omega
                  have HMb : Hid (mayB A B C ⟨X, Y, Q, kk, ii, jj⟩) := hmay
                  have HTb : Hid (∀ w1, Calls Try.prog 41 #[A3 A B C, B6 ⟨X, Y, Q, kk, ii, jj⟩] w1 fun e W' => e = .returned (B6 (canonB A B C ⟨X, Y, Q, kk, ii, jj⟩)) ∧ Below w1.heap.size w1 W') := fun w1 => HTo.out _ w1
                  have HCb : Hid (∀ w1, Below w.heap.size w w1 → Calls Try.prog 40 #[A3 A B C, B6 ⟨X, Y, Q, kk, ii, jj⟩, .slice ao n cap] w1 fun e W' => e = .returned (.bool (q ⟨X, Y, Q, kk, ii, jj⟩)) ∧ Below w1.heap.size w1 W') := fun w1 h1 => HCl.out _ w1 hmay h1
                  obtain ⟨ic, hic⟩ : ∃ ic, isCanon A B C ⟨X, Y, Q, kk, ii, jj⟩ = ic := ⟨_, rfl⟩
                  have hsb : sameBx (canonB A B C ⟨X, Y, Q, kk, ii, jj⟩) ⟨X, Y, Q, kk, ii, jj⟩ = ic := hic
                  rw [hic] at HSj
                  generalize canonB A B C ⟨X, Y, Q, kk, ii, jj⟩ = cb at *
                  generalize q ⟨X, Y, Q, kk, ii, jj⟩ = qa at *
                  have HSj : Hid (((ic && qa) = true → L1 = L0 ++ [⟨X, Y, Q, kk, ii, jj⟩]) ∧ ((ic && qa) = false → L1 = L0)) := HSj
                  clear hmay hic
                  have hkb : jj ≤ 16 ∧ 1 ≤ jj := by omega
                  rw [← hkk, ← hii, ← hjj]
                  clear hkk hii hjj hltj
                  go_wp2_with fail
                  refine (HWm.out _).mono ?_
                  rintro e w2 ⟨rfl, hB⟩
                  have b2 := b0.later hB
                  have hL3 := hL2.later hB
                  have hT2 := then_below HB.out hB
                  clear e0 e1 e2 ez b0 hL2 HB hB HWm
                  obtain ⟨w3, hw3⟩ : ∃ w3, w3 = w2.alloc (.cells (C6 ⟨X, Y, Q, kk, ii, jj⟩) 32) := ⟨_, rfl⟩
                  have hB3 : Below w2.heap.size w2 w3 := by rw [hw3]; exact (Below.refl _ w2).alloc (Nat.le_refl _) _
                  have kb : Blk w3 w2.heap.size 32 (C6 ⟨X, Y, Q, kk, ii, jj⟩) := by rw [hw3]; exact Blk.new _ _ _
                  have HW3 : Hid (w2.alloc (.cells (C6 ⟨X, Y, Q, kk, ii, jj⟩) 32) = w3) := hw3.symm
                  have b3 := b2.later hB3
                  have HL3 : Hid (Lx w3 (w.heap.size + 1) (.slice lo4 L0.length lc4) L0 ∧ Below w.heap.size w w3 ∧ Blk w3 w.heap.size 26 #[I A, I B, I C] ∧ Blk w3 w2.heap.size 32 (C6 ⟨X, Y, Q, kk, ii, jj⟩)) := ⟨hL3.later hB3, then_below hT2 hB3, b3, kb⟩
                  have z0 := Ext.cell b3 0
                  have z1 := Ext.cell b3 1
                  have z2 := Ext.cell b3 2
                  have y0 := Ext.cell kb 0
                  have y1 := Ext.cell kb 1
                  have y2 := Ext.cell kb 2
                  have y3 := Ext.cell kb 3
                  have y4 := Ext.cell kb 4
                  have y5 := Ext.cell kb 5
                  simp at z0 z1 z2 y0 y1 y2 y3 y4 y5
                  have HCx : Hid (∀ x : Ext w3, Calls Try.prog 40 #[A3 A B C, B6 ⟨X, Y, Q, kk, ii, jj⟩, .slice ao n cap] x.wd fun e W' => e = .returned (.bool qa) ∧ Below x.wd.heap.size x.wd W') := fun x => HCb.out x.wd (HL3.out.2.1.trans (x.le.mono HL3.out.2.1.size))
                  have hs2 : sameBx ⟨cb.x, cb.y, cb.z, cb.a, cb.b, cb.c⟩ ⟨X, Y, Q, kk, ii, jj⟩ = ic := hsb
                  clear hw3 hB3 kb b2 b3 hL3 hT2 HCb hsb
                  cases ic
                  · go_wp2_with fail
                    rw [HW3.out]
                    refine wp_region_look mixed (by kernel_rfl) ?_
                    repeat (go_big_quiet_step (first | (go_at_call 41; exact calls_ext (HTb.out _)) | (go_at_call 40; exact calls_ext (HCx.out _))))
                    refine wpQuiet_nil ?_
                    intro X'
                    have hX := X'.le
                    have HL4 : Hid (Lx X'.wd (w.heap.size + 1) (.slice lo4 L0.length lc4) L1 ∧ Below w.heap.size w X'.wd ∧ Blk X'.wd w.heap.size 26 #[I A, I B, I C]) := ⟨by rw [HSj.out.2 (by simp)]; exact HL3.out.1.later hX, HL3.out.2.1.trans (hX.mono HL3.out.2.1.size), HL3.out.2.2.1.later hX⟩
                    try rw [hs2]
                    clear z0 z1 z2 y0 y1 y2 y3 y4 y5 hX HCx HL3 HW3 hs2
                    generalize X'.wd = w6 at *
                    clear X'
                    go_wp2
                    exact ⟨⟨j + 1, by omega, by (have := HKK.out.2.2; simp only [Value.int.injEq, true_and]; omega), by rw [HE1.out]; exact HL4.out.1, HL4.out.2.2, HL4.out.2.1⟩, by have := HKK.out.2.2; simp [RowKit.intOf]; omega⟩
                  · go_wp2_with fail
                    rw [HW3.out]
                    refine wp_region_look mixed (by kernel_rfl) ?_
                    repeat (go_big_quiet_step (first | (go_at_call 41; exact calls_ext (HTb.out _)) | (go_at_call 40; exact calls_ext (HCx.out _))))
                    refine wpQuiet_nil ?_
                    intro X'
                    have hX := X'.le
                    have HL4 : Hid (Lx X'.wd (w.heap.size + 1) (.slice lo4 L0.length lc4) L0 ∧ Below w.heap.size w X'.wd ∧ Blk X'.wd w.heap.size 26 #[I A, I B, I C] ∧ Blk X'.wd w2.heap.size 32 (C6 ⟨X, Y, Q, kk, ii, jj⟩)) := ⟨HL3.out.1.later hX, HL3.out.2.1.trans (hX.mono HL3.out.2.1.size), HL3.out.2.2.1.later hX, HL3.out.2.2.2.later hX⟩
                    try rw [hs2]
                    clear z0 z1 z2 y0 y1 y2 y3 y4 y5 hX HCx HL3 HW3 hs2
                    generalize X'.wd = w6 at *
                    clear X'
                    cases qa
                    · have HL5 : Hid (Lx w6 (w.heap.size + 1) (.slice lo4 L0.length lc4) L1) := by rw [HSj.out.2 (by simp)]; exact HL4.out.1
                      go_wp2
                      exact ⟨⟨j + 1, by omega, by (have := HKK.out.2.2; simp only [Value.int.injEq, true_and]; omega), by rw [HE1.out]; exact HL5.out, HL4.out.2.2.1, HL4.out.2.1⟩, by have := HKK.out.2.2; simp [RowKit.intOf]; omega⟩
                    · have hLa := HL4.out.1
                      have hbz : w.heap.size + 1 ≤ w6.heap.size := HL4.out.2.2.1.lt
                      obtain ⟨g0, g1, g2, g3, g4, g5, gz⟩ := HL4.out.2.2.2.sixX (Below.refl _ _)
                      have HL1e : Hid (L1 = L0 ++ [⟨X, Y, Q, kk, ii, jj⟩]) := HSj.out.1 (by simp)
                      go_wp2_with (at_builtin; refine wpList_appX (b := ⟨X, Y, Q, kk, ii, jj⟩) rfl _ _ rfl rfl rfl rfl hLa hfl hbz ?_; intro ao11 n11 cap11 w11 hL11 hB11)
                      refine ⟨⟨j + 1, by omega, by (have := HKK.out.2.2; simp only [Value.int.injEq, true_and]; omega), by rw [HE1.out, HL1e.out]; exact hL11, HL4.out.2.2.1.below hB11 (Nat.lt_succ_self _), HL4.out.2.1.trans (hB11.mono (Nat.le_succ _))⟩, by have := HKK.out.2.2; simp [RowKit.intOf]; omega⟩
                · obtain rfl : j = C := by omega
                  have HL1 : Hid (Lx wr (w.heap.size + 1) (.slice lo4 (EV m (cubeZ B j k ++ (planeZ j k i ++ rowZ k i j))).length lc4) (EV m (cubeZ B j k ++ planeZ j k (i + 1)))) := by
                    rw [← F2.out m k i]
                    exact hL2
                  have HB1 : Hid (Below w.heap.size w wr ∧ Blk wr w.heap.size 26 #[I A, I B, I j]) := ⟨HB.out, b0⟩
                  clear hL2 HB b0
                  generalize (EV m (cubeZ B j k ++ (planeZ j k i ++ rowZ k i j))).length = gl4 at *
                  go_wp2
                  exact ⟨⟨i + 1, by omega, by go_num, HL1.out, HB1.out.2, HB1.out.1⟩, by simp [RowKit.intOf]; omega⟩
            · obtain rfl : i = B := by omega
              have HL1 : Hid (Lx wr (w.heap.size + 1) (.slice lo3 (EV m (cubeZ i C k ++ planeZ C k i)).length lc3) (EV m (cubeZ i C (k + 1)))) := by
                rw [← F1.out m k]
                exact hL2
              have HB1 : Hid (Below w.heap.size w wr ∧ Blk wr w.heap.size 26 #[I A, I i, I C]) := ⟨HB.out, b0⟩
              clear hL2 HB b0
              generalize (EV m (cubeZ i C k ++ planeZ C k i)).length = gl4 at *
              go_wp2
              exact ⟨⟨k + 1, by omega, by go_num, HL1.out, HB1.out.2, HB1.out.1⟩, by simp [RowKit.intOf]; omega⟩
        · obtain rfl : k = A := by omega
          have HL1 : Hid (Lx wr (w.heap.size + 1) (.slice lo2 (EV m (cubeZ B C k)).length lc2) (GP (m + 1))) := by
            rw [← F0.out m]
            exact hL2
          have HB1 : Hid (Below w.heap.size w wr ∧ Blk wr w.heap.size 26 #[I k, I B, I C]) := ⟨HB.out, b0⟩
          clear hL2 HB b0
          generalize (EV m (cubeZ B C k)).length = gl4 at *
          go_wp2
          exact ⟨⟨m + 1, by omega, by go_num, HL1.out, HB1.out.2, HB1.out.1⟩, by simp [RowKit.intOf]; omega⟩
    · obtain rfl : m = N := by omega
      have HF : Hid (Lx w1 (w.heap.size + 1) (.slice lo (GP m).length lc) FL) := by
        rw [← HFin.out]
        exact hL1
      clear hL1 b1
      generalize (GP m).length = gl at *
      go_wp2
      go_ret
      exact ⟨_, rfl, HF.out.weak (by omega), HB1.out⟩

end Go.Proofs.Ytjmfdpilmljppaa

/-
  What GrowMost asks, without a program: each free box lies in one that can't be grown; those lie in no other one; what is grown as far as it goes is one of them.
-/
namespace Go.Proofs.Ytjmfdpilmljppaa
open Go Go.RowKit Go.Shelf

def qW (ws : List Nat) (m : Int) : Bool := hasW ws m.toNat
theorem free_is {d0 d1 d2 : Int} (hd : mayD d0 d1 d2) {ws : List Nat} {b : Bx} : b ∈ freeL d0 d1 d2 ws ↔ freeG d0 d1 d2 (qW ws) b := by
  have hn := N_bd hd
  unfold freeL freeG qW
  rw [List.mem_filter, boxesZ_mem hd, clearX_iff]
  constructor
  · rintro ⟨⟨h1, h2⟩, h3⟩
    exact ⟨h1, h2, fun m hm hb => h3 m.toNat (by omega) (by rw [Int.toNat_of_nonneg hm.1]; exact hb)⟩
  · rintro ⟨h1, h2, h3⟩
    exact ⟨⟨h1, h2⟩, fun k hk hb => h3 k ⟨by omega, by omega⟩ hb⟩
theorem lone_is {d0 d1 d2 : Int} (hd : mayD d0 d1 d2) {ws : List Nat} {b : Bx} (hb : b ∈ freeL d0 d1 d2 ws) : lonely d0 d1 d2 (freeL d0 d1 d2 ws) b = true ↔ loneG d0 d1 d2 (qW ws) b := by
  have hf := (free_is hd).1 hb
  rw [grown_same hd hf.1 hf.2.1 hb]
  constructor
  · intro h
    refine lone_of hd hf fun k back hk hs => ?_
    have := no_step h (back := back) hk
    rw [memX_iff.2 ((free_is hd).2 hs)] at this
    cases this
  · intro h
    refine next_none_iff.2 fun s => ?_
    obtain ⟨k, back⟩ := s
    unfold tryG
    by_cases hk : sAt b k + 1 ≤ dimAt d0 d1 d2 k
    · rw [decide_eq_true hk, Bool.true_and]
      cases hm : memX (freeL d0 d1 d2 ws) (stepB d0 d1 d2 b k back)
      · rfl
      · exfalso
        obtain ⟨_, _, hi, hz⟩ := step_is hd hf.1 hk back
        have := h _ ((free_is hd).1 (memX_iff.1 hm)) hi
        rw [this] at hz
        omega
    · rw [decide_eq_false hk, Bool.false_and]
theorem most_is {d0 d1 d2 : Int} (hd : mayD d0 d1 d2) {ws : List Nat} {b : Bx} : b ∈ mostL d0 d1 d2 (freeL d0 d1 d2 ws) ↔ freeG d0 d1 d2 (qW ws) b ∧ loneG d0 d1 d2 (qW ws) b := by
  unfold mostL
  rw [List.mem_filter]
  constructor
  · rintro ⟨h1, h2⟩
    exact ⟨(free_is hd).1 h1, (lone_is hd h1).1 h2⟩
  · rintro ⟨h1, h2⟩
    have h3 := (free_is hd).2 h1
    exact ⟨h3, (lone_is hd h3).2 h2⟩
/-- What the statement asks of the two lists. -/
structure MostOk (d0 d1 d2 : Int) (xs ms : List Bx) : Prop where
  mx : ∀ x ∈ xs, mayB d0 d1 d2 x
  mm : ∀ x ∈ ms, mayB d0 d1 d2 x
  lies : ∀ x ∈ xs, (ms.any fun c => inB d0 d1 d2 x c) = true
  own : ∀ c ∈ ms, memX xs c = true
  lone : ∀ i k, i < ms.length → k < ms.length → k ≠ i → inB d0 d1 d2 (ms.getD i zX) (ms.getD k zX) = false
theorem most_ok {d0 d1 d2 : Int} (hd : mayD d0 d1 d2) (ws : List Nat) : MostOk d0 d1 d2 (freeL d0 d1 d2 ws) (mostL d0 d1 d2 (freeL d0 d1 d2 ws)) where
  mx := fun x hx => ((free_is hd).1 hx).1
  mm := fun x hx => ((most_is hd).1 hx).1.1
  lies := fun x hx => by
    have hf := (free_is hd).1 hx
    obtain ⟨c, h1, h2, h3⟩ := in_lone hd 48 hf (by
      have q0 := hf.1.1.1.1; have q1 := hf.1.2.1.1.1; have q2 := hf.1.2.2.1.1
      show 48 - szB x ≤ ((48 : Nat) : Int)
      unfold szB
      omega)
    exact List.any_eq_true.2 ⟨c, (most_is hd).2 ⟨h1, h2⟩, h3⟩
  own := fun c hc => memX_iff.2 ((free_is hd).2 ((most_is hd).1 hc).1)
  lone := fun i k hi hk hne => by
    cases h : inB d0 d1 d2 ((mostL d0 d1 d2 (freeL d0 d1 d2 ws)).getD i zX) ((mostL d0 d1 d2 (freeL d0 d1 d2 ws)).getD k zX)
    · rfl
    · exfalso
      have hnd : (mostL d0 d1 d2 (freeL d0 d1 d2 ws)).Pairwise (· ≠ ·) := List.Pairwise.filter _ (freeL_nodup d0 d1 d2 ws)
      have mi : (mostL d0 d1 d2 (freeL d0 d1 d2 ws)).getD i zX ∈ mostL d0 d1 d2 (freeL d0 d1 d2 ws) := by simp [hi]
      have mk : (mostL d0 d1 d2 (freeL d0 d1 d2 ws)).getD k zX ∈ mostL d0 d1 d2 (freeL d0 d1 d2 ws) := by simp [hk]
      have e := ((most_is hd).1 mi).2 _ ((most_is hd).1 mk).1 h
      generalize mostL d0 d1 d2 (freeL d0 d1 d2 ws) = ms at *
      rw [List.pairwise_iff_getElem] at hnd
      simp only [List.getD_eq_getElem?_getD, List.getElem?_eq_getElem hi, List.getElem?_eq_getElem hk, Option.getD_some] at e
      rcases Nat.lt_or_gt_of_ne hne with h1 | h1
      · exact hnd k i hk hi h1 e
      · exact hnd i k hi hk h1 e.symm
/-- What is grown as far as it goes. -/
theorem whole_ok {d0 d1 d2 : Int} {ws : List Nat} {b : Bx} (hd : mayD d0 d1 d2) (h : errW d0 d1 d2 b ws = 0) :
    mayB d0 d1 d2 b ∧ wholeV d0 d1 d2 b ws ∈ mostL d0 d1 d2 (freeL d0 d1 d2 ws) ∧ mayB d0 d1 d2 (wholeV d0 d1 d2 b ws) ∧ inB d0 d1 d2 b (wholeV d0 d1 d2 b ws) = true := by
  unfold wholeV
  rw [if_pos h]
  unfold errW at h
  split at h
  · split at h
    · rename_i hb
      have hb := (mayBB_iff _ _ _ _).1 hb
      split at h
      · rename_i hc
        obtain ⟨g1, g2, g3, g4, g5⟩ := grow_is hd (q := clearX d0 d1 d2 ws) 48 (canon_may hb) (canon_canon _ _ _ _) hc (by
          have q0 := hb.1.1.1; have q1 := hb.2.1.1.1; have q2 := hb.2.2.1.1
          show 48 - szB (canonB d0 d1 d2 b) ≤ ((48 : Nat) : Int)
          rw [canon_sz]
          unfold szB
          omega)
        have hfr : growG d0 d1 d2 (clearX d0 d1 d2 ws) (canonB d0 d1 d2 b) ∈ freeL d0 d1 d2 ws := by
          unfold freeL
          rw [List.mem_filter, boxesZ_mem hd]
          exact ⟨⟨g1, g2⟩, g3⟩
        have hfg := (free_is hd).1 hfr
        refine ⟨hb, (most_is hd).2 ⟨hfg, lone_of hd hfg fun k back hk hs => ?_⟩, g1, in_trans hd hb (canon_may hb) g1 (canon_in hb).1 g4⟩
        have := no_step g5 (back := back) hk
        have hin := (free_is hd).2 hs
        unfold freeL at hin
        rw [(List.mem_filter.1 hin).2] at this
        cases this
      · cases h
    · cases h
  · cases h

end Go.Proofs.Ytjmfdpilmljppaa

/-
  Lists of whole numbers: a list behind another one, and two numbers behind a list.
-/
namespace Go.Proofs.Ytjmfdpilmljppaa
open Go Go.RowKit Go.Shelf

/-- 'list = append(list, x, y)', the list a call's own. -/
theorem wpList_app2 {ops : Array Oper} {rest : List Oper} {o : Oper} {a : Act} {Q : Exit → Act → World → Prop} {W : World} {base : Nat} {v : Value} {xs : List Int} {y z : Int} (hgd : o.guard = none) (s x : Operand)
    (ho : o.op = .call { callee := .builtin .append, args := #[s, x], argTypes := #[52, 52] }) (hs : a.eval s = v) (hx : a.eval x = .slice (some ⟨W.heap.size, 0, none⟩) 2 2)
    (hown : Lst W base v xs) (hl : xs.length ≤ 100000) (hb : base ≤ W.heap.size)
    (h : ∀ v' w', Lst w' base v' (xs ++ [y, z]) → Below base W w' → wpList Try.prog ops Q rest (a.put o.dst v') w') : wpList Try.prog ops Q (o :: rest) a (W.alloc (.cells #[.int .i64 y, .int .i64 z] 3)) := by
  obtain ⟨i0, hi, hz0, hz1, hz2⟩ := info_parts info_int
  refine wpList_append_own (w := W.alloc (.cells #[.int .i64 y, .int .i64 z] 3)) hgd s x 52 ho base 3 i0 (.int .i64 0) 1 8 Try.underlying52 hi hz0 hz1 hz2 rfl (by decide) v xs.length _ hs (hown.alloc _) ⟨W.heap.size, 0, none⟩ 2 2 [.int .i64 y, .int .i64 z] hx rfl ?_ ?_ ?_ ?_ ?_ ?_
  · intro j u hj
    match j, hj with
    | 0, hj => simp at hj; subst hj; simp [Addr.add]
    | 1, hj => simp at hj; subst hj; simp [Addr.add]
  · intro u hu; simp at hu; rcases hu with rfl | rfl <;> rfl
  · unfold maxLen; omega
  · omega
  · simp; omega
  · intro v' w1 hown' hgrow _
    refine h v' w1 ?_ ?_
    · unfold Lst
      rw [List.map_append, List.length_append]
      exact hown'
    · exact ((Below.refl base W).alloc hb _).grown hgrow (by simp; omega) (fun k hk => (World.ownsRow.lt hown k hk).1)

/-- 'list = append(list, more...)', both lists a call's own. -/
theorem wpList_cat {ops : Array Oper} {rest : List Oper} {o : Oper} {a : Act} {Q : Exit → Act → World → Prop} {W : World} {base b2 : Nat} {v u : Value} {xs ys : List Int} (hgd : o.guard = none) (s x : Operand)
    (ho : o.op = .call { callee := .builtin .append, args := #[s, x], argTypes := #[52, 52] }) (hs : a.eval s = v) (hx : a.eval x = u)
    (hown : Lst W base v xs) (hu : Lst W b2 u ys) (hl : xs.length ≤ 100000) (hl2 : ys.length ≤ 100000) (hb : base ≤ W.heap.size)
    (h : ∀ v' w', Lst w' base v' (xs ++ ys) → Below base W w' → wpList Try.prog ops Q rest (a.put o.dst v') w') : wpList Try.prog ops Q (o :: rest) a W := by
  obtain ⟨i0, hi, hz0, hz1, hz2⟩ := info_parts info_int
  have hv := hu.view
  rcases hu.2 with ⟨rfl, hn⟩ | ⟨g, cap, cur, rfl, hg, hh, hc, hc2, hs2, ht⟩
  · have : ys = [] := List.length_eq_zero_iff.1 hn
    subst this
    rw [List.append_nil] at h
    exact wpList_append_own_none hgd s x 52 ho base 3 i0 1 Try.underlying52 hi v xs.length _ hs hown hx (h _ _ hown (Below.refl _ _))
  · refine wpList_append_own (w := W) hgd s x 52 ho base 3 i0 (.int .i64 0) 1 8 Try.underlying52 hi hz0 hz1 hz2 rfl (by decide) v xs.length _ hs hown ⟨g, 0, none⟩ ys.length cap (ys.map (Value.int .i64)) hx (by simp) ?_ ?_ ?_ ?_ ?_ ?_
    · intro j y hj
      have hjl : j < ys.length := by
        have := (List.getElem?_eq_some_iff.1 hj).1
        simpa using this
      obtain ⟨ao, c, e, hw⟩ := hv
      simp only [Value.slice.injEq] at e
      obtain ⟨rfl, -, -⟩ := e
      obtain ⟨g', cur', e, hB, hc'⟩ := hw j hjl
      simp only [Option.some.injEq, Addr.mk.injEq] at e
      obtain ⟨rfl, -, -⟩ := e
      have : (⟨g, 0, none⟩ : Addr).add j = ⟨g, j, none⟩ := by
        unfold Addr.add
        split
        · rename_i h0; subst h0; rfl
        · simp
      rw [this, hB.cell j, hc', ← hj]
      simp [hjl]
    · intro y hy
      obtain ⟨z, _, rfl⟩ := List.mem_map.1 hy
      rfl
    · unfold maxLen; omega
    · omega
    · omega
    · intro v' w1 hown' hgrow _
      refine h v' w1 ?_ ?_
      · unfold Lst
        rw [List.map_append, List.length_append]
        exact hown'
      · exact (Below.refl base W).grown hgrow hb (fun k hk => (World.ownsRow.lt hown k hk).1)

end Go.Proofs.Ytjmfdpilmljppaa
