/-
  tidehallref06.Passes: the document's own list of the midplanes that a place passes.
-/
import Derived.Test.YtbobfhoimhambaaGreatDoorRefSets
import Derived.Test.YtbobfhoimhambaaGreatDoorPart26
import Derived.Test.YtbobfhoimhambaaGreatDoorPart14
namespace Go.Proofs.YtbobfhoimhambaaGreatDoor
open Go Go.RowKit Go.Shelf

attribute [local go_sem] Oper.semAt_some ext_const

theorem passTo_yes {d0 d1 d2 : Int} {b : Bx} {t0 t1 t2 : Bool} {k : Nat} (h : pasB d0 d1 d2 b t0 t1 t2 (k : Int) = true) : passTo d0 d1 d2 b t0 t1 t2 (k + 1) = passTo d0 d1 d2 b t0 t1 t2 k ++ [(k : Int)] := by
  simp [passTo, ofN, List.range_succ, List.filter_append, h]
theorem passTo_no {d0 d1 d2 : Int} {b : Bx} {t0 t1 t2 : Bool} {k : Nat} (h : pasB d0 d1 d2 b t0 t1 t2 (k : Int) = false) : passTo d0 d1 d2 b t0 t1 t2 (k + 1) = passTo d0 d1 d2 b t0 t1 t2 k := by
  simp [passTo, ofN, List.range_succ, List.filter_append, h]
theorem passTo_len (d0 d1 d2 : Int) (b : Bx) (t0 t1 t2 : Bool) (k : Nat) : (passTo d0 d1 d2 b t0 t1 t2 k).length ≤ k := by
  unfold passTo
  rw [ofN_len]
  have := List.length_filter_le (fun j : Nat => pasB d0 d1 d2 b t0 t1 t2 (j : Int)) (List.range k)
  rwa [List.length_range] at this

/-- tidehallref03.There, of a set that tells the numbers below n. -/
theorem there_set {n : Int} {p : Nat → Bool} {u : Value} {b1 : Nat} (w : World) (hu : SetR w b1 u (setOf n p)) {x : Int} (hx : 0 ≤ x ∧ x < n) (h2 : n ≤ 12288) :
    Calls Tryz.prog 23 #[u, I x] w fun e W' => e = .returned (.bool (p x.toNat)) ∧ W' = w := by
  obtain ⟨m, rfl⟩ : ∃ m : Nat, x = m := ⟨x.toNat, by omega⟩
  have := there_calls w hu.wds m (by omega)
  rw [(setOf_is n p).has, decide_eq_true (show m < n.toNat by omega), Bool.true_and] at this
  rwa [Int.toNat_natCast]

set_option maxRecDepth 100000 in
set_option maxHeartbeats 4000000 in
theorem rpasses_err {d0 d1 d2 : Int} {b : Bx} (t0 t1 t2 : Bool) (w : World) (he : (errP d0 d1 d2 b t0 t1 t2 != 0) = true) :
    Calls Tryz.prog 7 #[A3 d0 d1 d2, P9 b t0 t1 t2] w fun e W' => e = .returned (.tuple #[.slice none 0 0, I (errP d0 d1 d2 b t0 t1 t2)]) ∧ Below w.heap.size w W' := by
  have HC : Hid (∀ w, Calls Tryz.prog 11 #[A3 d0 d1 d2, P9 b t0 t1 t2] w fun e W' => e = .returned (I (errP d0 d1 d2 b t0 t1 t2)) ∧ Below w.heap.size w W') := fun w => rpcheck_calls d0 d1 d2 b t0 t1 t2 w
  generalize errP d0 d1 d2 b t0 t1 t2 = er at *
  go_enter Tryz.func7, Tryz.ntmps7
  go_wp2_with fail
  obtain ⟨W, hW, hB0, b0, b1⟩ := two_start w #[I d0, I d1, I d2] (C9 b t0 t1 t2) 23 28
  rw [hW]
  clear hW
  refine (HC.out _).mono ?_
  rintro e w1 ⟨rfl, hT⟩
  go_wp2
  go_ret2
  exact ⟨rfl, then_below hB0 hT⟩

set_option maxRecDepth 100000 in
set_option maxHeartbeats 16000000 in
theorem rpasses_ok {d0 d1 d2 : Int} {b : Bx} {t0 t1 t2 : Bool} (w : World) (hm : mayD d0 d1 d2) (hp : mayP d0 d1 d2 b t0 t1 t2) :
    Calls Tryz.prog 7 #[A3 d0 d1 d2, P9 b t0 t1 t2] w fun e W' => ∃ v, e = .returned (.tuple #[v, I 0]) ∧ Lst W' w.heap.size v (passL d0 d1 d2 b t0 t1 t2) ∧ Below w.heap.size w W' := by
  have hN := N_bd hm
  have HC : Hid (∀ w, Calls Tryz.prog 11 #[A3 d0 d1 d2, P9 b t0 t1 t2] w fun e W' => e = .returned (I 0) ∧ Below w.heap.size w W') := fun w => by have := rpcheck_calls d0 d1 d2 b t0 t1 t2 w; rwa [errP_ok hm hp] at this
  have HT : Hid (∀ w, Calls Tryz.prog 16 #[A3 d0 d1 d2, P9 b t0 t1 t2] w fun e W' => ∃ u v, e = .returned (.tuple #[u, v]) ∧ SetR W' w.heap.size u (midW d0 d1 d2 b) ∧ SetR W' w.heap.size v (cabsW d0 d1 d2 b t0 t1 t2) ∧ Below w.heap.size w W') := fun w => rtaken_calls w hm hp
  have HN : Hid (∀ w, Calls Tryz.prog 21 #[A3 d0 d1 d2] w fun e W' => e = .returned (I (d0 * d1 * d2)) ∧ Below w.heap.size w W') := fun w => rn_calls w hm
  have HMd : Hid (∀ (m : Nat) w u b1, (m : Int) < d0 * d1 * d2 → SetR w b1 u (midW d0 d1 d2 b) → Calls Tryz.prog 23 #[u, I (m : Int)] w fun e W' => e = .returned (.bool (hasB d0 d1 d2 b (m : Int))) ∧ W' = w) := fun m w u b1 hx hu => by
    have := there_set w hu (x := (m : Int)) (by omega) (by omega)
    rwa [Int.toNat_natCast] at this
  have HOn0 : Hid (∀ (m : Nat) w, (m : Int) < d0 * d1 * d2 → Calls Tryz.prog 22 #[A3 d0 d1 d2, I (m : Int), I 0, I (-1)] w fun x W' => x = .returned (I (onD d0 d1 d2 (m : Int) 0 (-1))) ∧ Below w.heap.size w W') := fun m w hn => ron_ax (k := 0) w hm (by omega) rfl
  have HBk0 : Hid (∀ (m : Nat), (m : Int) < d0 * d1 * d2 → 0 ≤ onD d0 d1 d2 (m : Int) 0 (-1) ∧ onD d0 d1 d2 (m : Int) 0 (-1) < d0 * d1 * d2) := fun m hn => on_node hm (by omega) 0 (-1)
  have HTh0 : Hid (∀ (o x : Int) w u b1, 0 ≤ o ∧ o < d0 * d1 * d2 → x = 0 * (d0 * d1 * d2) + o → SetR w b1 u (cabsW d0 d1 d2 b t0 t1 t2) → Calls Tryz.prog 23 #[u, I x] w fun e W' => e = .returned (.bool (takes d0 d1 d2 b t0 t1 t2 0 o)) ∧ W' = w) := fun o x w u b1 ho hx hu => by
    have e : x = cabW d0 d1 d2 0 o := by rw [hx]; rfl
    have hb := cab_node ho 0
    have := there_set w hu (x := x) (by rw [e]; exact hb) (by omega)
    rwa [show ((x.toNat : Nat) : Int) = x by rw [e]; omega, e, cabB_at ho 0, ← e] at this
  have HOn1 : Hid (∀ (m : Nat) w, (m : Int) < d0 * d1 * d2 → Calls Tryz.prog 22 #[A3 d0 d1 d2, I (m : Int), I 1, I (-1)] w fun x W' => x = .returned (I (onD d0 d1 d2 (m : Int) 1 (-1))) ∧ Below w.heap.size w W') := fun m w hn => ron_ax (k := 1) w hm (by omega) rfl
  have HBk1 : Hid (∀ (m : Nat), (m : Int) < d0 * d1 * d2 → 0 ≤ onD d0 d1 d2 (m : Int) 1 (-1) ∧ onD d0 d1 d2 (m : Int) 1 (-1) < d0 * d1 * d2) := fun m hn => on_node hm (by omega) 1 (-1)
  have HTh1 : Hid (∀ (o x : Int) w u b1, 0 ≤ o ∧ o < d0 * d1 * d2 → x = 1 * (d0 * d1 * d2) + o → SetR w b1 u (cabsW d0 d1 d2 b t0 t1 t2) → Calls Tryz.prog 23 #[u, I x] w fun e W' => e = .returned (.bool (takes d0 d1 d2 b t0 t1 t2 1 o)) ∧ W' = w) := fun o x w u b1 ho hx hu => by
    have e : x = cabW d0 d1 d2 1 o := by rw [hx]; rfl
    have hb := cab_node ho 1
    have := there_set w hu (x := x) (by rw [e]; exact hb) (by omega)
    rwa [show ((x.toNat : Nat) : Int) = x by rw [e]; omega, e, cabB_at ho 1, ← e] at this
  have HOn2 : Hid (∀ (m : Nat) w, (m : Int) < d0 * d1 * d2 → Calls Tryz.prog 22 #[A3 d0 d1 d2, I (m : Int), I 2, I (-1)] w fun x W' => x = .returned (I (onD d0 d1 d2 (m : Int) 2 (-1))) ∧ Below w.heap.size w W') := fun m w hn => ron_ax (k := 2) w hm (by omega) rfl
  have HBk2 : Hid (∀ (m : Nat), (m : Int) < d0 * d1 * d2 → 0 ≤ onD d0 d1 d2 (m : Int) 2 (-1) ∧ onD d0 d1 d2 (m : Int) 2 (-1) < d0 * d1 * d2) := fun m hn => on_node hm (by omega) 2 (-1)
  have HTh2 : Hid (∀ (o x : Int) w u b1, 0 ≤ o ∧ o < d0 * d1 * d2 → x = 2 * (d0 * d1 * d2) + o → SetR w b1 u (cabsW d0 d1 d2 b t0 t1 t2) → Calls Tryz.prog 23 #[u, I x] w fun e W' => e = .returned (.bool (takes d0 d1 d2 b t0 t1 t2 2 o)) ∧ W' = w) := fun o x w u b1 ho hx hu => by
    have e : x = cabW d0 d1 d2 2 o := by rw [hx]; rfl
    have hb := cab_node ho 2
    have := there_set w hu (x := x) (by rw [e]; exact hb) (by omega)
    rwa [show ((x.toNat : Nat) : Int) = x by rw [e]; omega, e, cabB_at ho 2, ← e] at this
  have HQ : Hid (∀ m : Nat, pasB d0 d1 d2 b t0 t1 t2 (m : Int) = ((endK d0 d1 d2 b t0 t1 t2 0 (m : Int) || endK d0 d1 d2 b t0 t1 t2 1 (m : Int) || endK d0 d1 d2 b t0 t1 t2 2 (m : Int)) && !hasB d0 d1 d2 b (m : Int))) := fun m => rfl
  have HK0 : Hid (∀ m : Nat, endK d0 d1 d2 b t0 t1 t2 0 (m : Int) = (decide (1 < d0) && (takes d0 d1 d2 b t0 t1 t2 0 (m : Int) || takes d0 d1 d2 b t0 t1 t2 0 (onD d0 d1 d2 (m : Int) 0 (-1))))) := fun m => rfl
  have HK1 : Hid (∀ m : Nat, endK d0 d1 d2 b t0 t1 t2 1 (m : Int) = (decide (1 < d1) && (takes d0 d1 d2 b t0 t1 t2 1 (m : Int) || takes d0 d1 d2 b t0 t1 t2 1 (onD d0 d1 d2 (m : Int) 1 (-1))))) := fun m => rfl
  have HK2 : Hid (∀ m : Nat, endK d0 d1 d2 b t0 t1 t2 2 (m : Int) = (decide (1 < d2) && (takes d0 d1 d2 b t0 t1 t2 2 (m : Int) || takes d0 d1 d2 b t0 t1 t2 2 (onD d0 d1 d2 (m : Int) 2 (-1))))) := fun m => rfl
  have HPL : Hid (passL d0 d1 d2 b t0 t1 t2 = passTo d0 d1 d2 b t0 t1 t2 (d0 * d1 * d2).toNat) := rfl
  have HPY : Hid (∀ k : Nat, pasB d0 d1 d2 b t0 t1 t2 (k : Int) = true → passTo d0 d1 d2 b t0 t1 t2 (k + 1) = passTo d0 d1 d2 b t0 t1 t2 k ++ [(k : Int)]) := fun k h => passTo_yes h
  have HPN : Hid (∀ k : Nat, pasB d0 d1 d2 b t0 t1 t2 (k : Int) = false → passTo d0 d1 d2 b t0 t1 t2 (k + 1) = passTo d0 d1 d2 b t0 t1 t2 k) := fun k h => passTo_no h
  have HPT : Hid (∀ k, (passTo d0 d1 d2 b t0 t1 t2 k).length ≤ k) := fun k => passTo_len d0 d1 d2 b t0 t1 t2 k
  have HP0 : Hid (passTo d0 d1 d2 b t0 t1 t2 0 = []) := rfl
  rw [HPL.out]
  clear hm hp HPL
  generalize midW d0 d1 d2 b = S1 at *
  generalize cabsW d0 d1 d2 b t0 t1 t2 = S2 at *
  generalize passTo d0 d1 d2 b t0 t1 t2 = pt at *
  generalize pasB d0 d1 d2 b t0 t1 t2 = pb at *
  generalize hasB d0 d1 d2 b = hb at *
  generalize endK d0 d1 d2 b t0 t1 t2 0 = ek0 at *
  generalize endK d0 d1 d2 b t0 t1 t2 1 = ek1 at *
  generalize endK d0 d1 d2 b t0 t1 t2 2 = ek2 at *
  generalize takes d0 d1 d2 b t0 t1 t2 0 = tk0 at *
  generalize takes d0 d1 d2 b t0 t1 t2 1 = tk1 at *
  generalize takes d0 d1 d2 b t0 t1 t2 2 = tk2 at *
  generalize d0 * d1 * d2 = M at *
  obtain ⟨N, rfl⟩ : ∃ N : Nat, M = (N : Int) := ⟨M.toNat, by omega⟩
  rw [Int.toNat_natCast]
  go_enter Tryz.func7, Tryz.ntmps7
  go_wp2_with fail
  obtain ⟨W, hW, hB0, b0, b1⟩ := two_start w #[I d0, I d1, I d2] (C9 b t0 t1 t2) 23 28
  rw [hW]
  clear hW
  refine (HC.out _).mono ?_
  rintro e w1 ⟨rfl, hT⟩
  obtain ⟨c0, c1, c2, hz⟩ := b0.three hT
  obtain ⟨⟨x0, x1, x2⟩, ⟨x3, x4, x5⟩, ⟨x6, x7, x8⟩, hz1⟩ := b1.nine hT
  go_wp2_with fail
  refine (HT.out _).mono ?_
  rintro e w2 ⟨u, v, rfl, hu, hv, hT2⟩
  have hT := then_below hT hT2
  have g0 := b0.later hT
  have hB := then_below hB0 hT
  clear hT2 c0 c1 c2 hz x0 x1 x2 x3 x4 x5 x6 x7 x8 hz1 hT b0 b1 hB0
  go_wp2_with fail
  go_loopw [9, 10] (fun l i wr => ∃ m : Nat, m ≤ N ∧ i = .int .i64 m ∧ Lst wr w2.heap.size l (pt m) ∧ Below w2.heap.size w2 wr) (fun _ i _ => N - (intOf i).toNat)
  case atStart => exact ⟨0, by omega, rfl, by rw [HP0.out]; exact Lst.nil _ _, Below.refl _ _⟩
  case round =>
    obtain ⟨m, hmN, rfl, hL, hT⟩ := hrel
    obtain ⟨c0, c1, c2, hz⟩ := g0.three hT
    go_wp2_with fail
    refine (HN.out _).mono ?_
    rintro e w3 ⟨rfl, hT3⟩
    have hL := hL.later hT3
    have hT := then_below hT hT3
    clear hT3 c0 c1 c2 hz
    by_cases hlt : (m : Int) < (N : Int)
    · have hu3 := hu.later hT
      have hv3 := hv.later hT
      have g3 := g0.later hT
      go_wp2_with fail
      go_loopw [11, 12] (fun f i wr => ((i = .int .i64 0 ∧ f = .bool false) ∨ (i = .int .i64 1 ∧ f = .bool (ek0 m)) ∨ (i = .int .i64 2 ∧ f = .bool (ek0 m || ek1 m)) ∨ (i = .int .i64 3 ∧ f = .bool (ek0 m || ek1 m || ek2 m))) ∧ Below w3.heap.size w3 wr) (fun _ i _ => 3 - (intOf i).toNat)
      case atStart => exact ⟨.inl ⟨rfl, rfl⟩, Below.refl _ _⟩
      case round =>
        rename World => wi
        obtain ⟨hi, hTi⟩ := hrel
        obtain ⟨c0, c1, c2, hz⟩ := g3.three hTi
        rcases hi with ⟨rfl, rfl⟩ | ⟨rfl, rfl⟩ | ⟨rfl, rfl⟩ | ⟨rfl, rfl⟩
        · obtain ⟨ac, hac⟩ : ∃ ac, ac = false := ⟨_, rfl⟩
          have HAC : Hid (false = ac) := hac.symm
          skip
          clear hac
          have HE := HK0.out m
          have hon := HBk0.out m hlt
          have KOn := fun w => HOn0.out m w hlt
          generalize onD d0 d1 d2 (m : Int) 0 (-1) = bk at *
          have HE : Hid (ek0 m = (decide (1 < d0) && (tk0 m || tk0 bk))) := HE
          go_wp2_with fail
          refine (HN.out _).mono ?_
          rintro e wa ⟨rfl, hTa⟩
          have hTi := then_below hTi hTa
          clear hTa c0 c1 c2 hz
          obtain ⟨c0, c1, c2, hz⟩ := g3.three hTi
          go_wp2_with fail
          refine (KOn _).mono ?_
          rintro e wb ⟨rfl, hTa⟩
          have hTi := then_below hTi hTa
          clear hTa c0 c1 c2 hz
          obtain ⟨c0, c1, c2, hz⟩ := g3.three hTi
          cases hq : decide (1 < d0)
          · go_wp2
            go_roundw
            case rel => exact ⟨.inr (.inl ⟨rfl, by rw [HE.out, hq]; simp⟩), hTi⟩
            case measure => simp [intOf]
          · have KA := fun x (e : x = 0 * (N : Int) + (m : Int)) => HTh0.out (m : Int) x wb v _ (by omega) e (hv3.later hTi)
            have KB := fun x (e : x = 0 * (N : Int) + bk) => HTh0.out bk x wb v _ hon e (hv3.later hTi)
            go_wp2_with fail
            refine (KA _ (by go_num)).mono ?_
            rintro e wc ⟨rfl, rfl⟩
            cases hA : tk0 m
            · go_wp2_with fail
              refine (KB _ (by go_num)).mono ?_
              rintro e wc2 ⟨rfl, rfl⟩
              cases hBq : tk0 bk
              · go_wp2
                go_roundw
                case rel => exact ⟨.inr (.inl ⟨rfl, by rw [HE.out, hq, hA, hBq]; simp⟩), hTi⟩
                case measure => simp [intOf]
              · go_wp2
                go_roundw
                case rel => exact ⟨.inr (.inl ⟨rfl, by rw [HE.out, hq, hA, hBq]; simp⟩), hTi⟩
                case measure => simp [intOf]
            · go_wp2
              go_roundw
              case rel => exact ⟨.inr (.inl ⟨rfl, by rw [HE.out, hq, hA]; simp⟩), hTi⟩
              case measure => simp [intOf]
        · obtain ⟨ac, hac⟩ : ∃ ac, ac = ek0 m := ⟨_, rfl⟩
          have HAC : Hid (ek0 m = ac) := hac.symm
          rw [← hac]
          clear hac
          have HE := HK1.out m
          have hon := HBk1.out m hlt
          have KOn := fun w => HOn1.out m w hlt
          generalize onD d0 d1 d2 (m : Int) 1 (-1) = bk at *
          have HE : Hid (ek1 m = (decide (1 < d1) && (tk1 m || tk1 bk))) := HE
          go_wp2_with fail
          refine (HN.out _).mono ?_
          rintro e wa ⟨rfl, hTa⟩
          have hTi := then_below hTi hTa
          clear hTa c0 c1 c2 hz
          obtain ⟨c0, c1, c2, hz⟩ := g3.three hTi
          go_wp2_with fail
          refine (KOn _).mono ?_
          rintro e wb ⟨rfl, hTa⟩
          have hTi := then_below hTi hTa
          clear hTa c0 c1 c2 hz
          obtain ⟨c0, c1, c2, hz⟩ := g3.three hTi
          cases hq : decide (1 < d1)
          · go_wp2
            go_roundw
            case rel => exact ⟨.inr (.inr (.inl ⟨rfl, by rw [HE.out, hq]; simp⟩)), hTi⟩
            case measure => simp [intOf]
          · have KA := fun x (e : x = 1 * (N : Int) + (m : Int)) => HTh1.out (m : Int) x wb v _ (by omega) e (hv3.later hTi)
            have KB := fun x (e : x = 1 * (N : Int) + bk) => HTh1.out bk x wb v _ hon e (hv3.later hTi)
            go_wp2_with fail
            refine (KA _ (by go_num)).mono ?_
            rintro e wc ⟨rfl, rfl⟩
            cases hA : tk1 m
            · go_wp2_with fail
              refine (KB _ (by go_num)).mono ?_
              rintro e wc2 ⟨rfl, rfl⟩
              cases hBq : tk1 bk
              · go_wp2
                go_roundw
                case rel => exact ⟨.inr (.inr (.inl ⟨rfl, by rw [HE.out, hq, hA, hBq]; simp⟩)), hTi⟩
                case measure => simp [intOf]
              · go_wp2
                go_roundw
                case rel => exact ⟨.inr (.inr (.inl ⟨rfl, by rw [HE.out, hq, hA, hBq]; simp⟩)), hTi⟩
                case measure => simp [intOf]
            · go_wp2
              go_roundw
              case rel => exact ⟨.inr (.inr (.inl ⟨rfl, by rw [HE.out, hq, hA]; simp⟩)), hTi⟩
              case measure => simp [intOf]
        · obtain ⟨ac, hac⟩ : ∃ ac, ac = (ek0 m || ek1 m) := ⟨_, rfl⟩
          have HAC : Hid ((ek0 m || ek1 m) = ac) := hac.symm
          rw [← hac]
          clear hac
          have HE := HK2.out m
          have hon := HBk2.out m hlt
          have KOn := fun w => HOn2.out m w hlt
          generalize onD d0 d1 d2 (m : Int) 2 (-1) = bk at *
          have HE : Hid (ek2 m = (decide (1 < d2) && (tk2 m || tk2 bk))) := HE
          go_wp2_with fail
          refine (HN.out _).mono ?_
          rintro e wa ⟨rfl, hTa⟩
          have hTi := then_below hTi hTa
          clear hTa c0 c1 c2 hz
          obtain ⟨c0, c1, c2, hz⟩ := g3.three hTi
          go_wp2_with fail
          refine (KOn _).mono ?_
          rintro e wb ⟨rfl, hTa⟩
          have hTi := then_below hTi hTa
          clear hTa c0 c1 c2 hz
          obtain ⟨c0, c1, c2, hz⟩ := g3.three hTi
          cases hq : decide (1 < d2)
          · go_wp2
            go_roundw
            case rel => exact ⟨.inr (.inr (.inr ⟨rfl, by rw [HE.out, hq]; simp⟩)), hTi⟩
            case measure => simp [intOf]
          · have KA := fun x (e : x = 2 * (N : Int) + (m : Int)) => HTh2.out (m : Int) x wb v _ (by omega) e (hv3.later hTi)
            have KB := fun x (e : x = 2 * (N : Int) + bk) => HTh2.out bk x wb v _ hon e (hv3.later hTi)
            go_wp2_with fail
            refine (KA _ (by go_num)).mono ?_
            rintro e wc ⟨rfl, rfl⟩
            cases hA : tk2 m
            · go_wp2_with fail
              refine (KB _ (by go_num)).mono ?_
              rintro e wc2 ⟨rfl, rfl⟩
              cases hBq : tk2 bk
              · go_wp2
                go_roundw
                case rel => exact ⟨.inr (.inr (.inr ⟨rfl, by rw [HE.out, hq, hA, hBq]; simp⟩)), hTi⟩
                case measure => simp [intOf]
              · go_wp2
                go_roundw
                case rel => exact ⟨.inr (.inr (.inr ⟨rfl, by rw [HE.out, hq, hA, hBq]; simp⟩)), hTi⟩
                case measure => simp [intOf]
            · go_wp2
              go_roundw
              case rel => exact ⟨.inr (.inr (.inr ⟨rfl, by rw [HE.out, hq, hA]; simp⟩)), hTi⟩
              case measure => simp [intOf]
        · have hTT := then_below hT hTi
          have hL := hL.later hTi
          have HP := HQ.out m
          have hlen : (pt m).length ≤ 100000 := by have := HPT.out m; omega
          have KM := fun w u b1 hu => HMd.out m w u b1 hlt hu
          have HPm : Hid (pb m = ((ek0 m || ek1 m || ek2 m) && !hb m)) := HP
          generalize (ek0 m || ek1 m || ek2 m) = en at *
          cases en
          · have E := HPN.out m (by rw [HPm.out]; rfl)
            go_wp2
            go_roundw
            case rel => exact ⟨m + 1, by omega, by go_num, by rw [E]; exact hL, hTT⟩
            case measure => simp [intOf]; omega
          · go_wp2_with fail
            refine (KM _ _ _ (hu.later hTT)).mono ?_
            rintro e wd ⟨rfl, rfl⟩
            cases hh : hb m
            · have E := HPY.out m (by rw [HPm.out, hh]; rfl)
              go_wp2_with (at_builtin; refine wpList_app rfl _ _ rfl rfl rfl hL hlen hTT.size ?_; intro v5 w5 hL5 hT5)
              go_roundw
              case rel => exact ⟨m + 1, by omega, by go_num, by rw [E]; exact hL5, hTT.trans hT5⟩
              case measure => simp [intOf]; omega
            · have E := HPN.out m (by rw [HPm.out, hh]; rfl)
              go_wp2
              go_roundw
              case rel => exact ⟨m + 1, by omega, by go_num, by rw [E]; exact hL, hTT⟩
              case measure => simp [intOf]; omega
    · have e : m = N := by omega
      subst e
      go_wp2
      go_ret2
      exact ⟨_, rfl, hL.weak hB.size, then_below hB hT⟩

end Go.Proofs.YtbobfhoimhambaaGreatDoor

/-
  The document's answers of one set (tidehallref03.List, Has, Many); whether two lists are the same (tidehallref02.Ints).
-/
namespace Go.Proofs.YtbobfhoimhambaaGreatDoor
open Go Go.RowKit Go.Shelf

attribute [local go_sem] Oper.semAt_some ext_const

set_option maxRecDepth 100000 in
set_option maxHeartbeats 2000000 in
theorem ints2_calls {xs ys : List Int} {u v : Value} (w : World) (hu : Its w u xs) (hv : Its w v ys) (hx : xs.length ≤ 100000) :
    Calls Tryz.prog 13 #[u, v] w fun e W' => e = .returned (.bool (decide (xs = ys))) ∧ Below w.heap.size w W' := by
  have hmx : Tryz.prog.follows .mixedOrders = true := by kernel_rfl
  obtain ⟨ao, cap, rfl, hA⟩ := hu.view
  obtain ⟨ao', cap', rfl, hB⟩ := hv.view
  have HA : Hid (∀ k, k < xs.length → ∃ g off, ao = some ⟨g, off, none⟩ ∧ g < w.heap.size ∧ w.cell? ⟨g, off + k, none⟩ = some (I (xs.getD k 0))) := hA
  have HB : Hid (∀ k, k < ys.length → ∃ g off, ao' = some ⟨g, off, none⟩ ∧ g < w.heap.size ∧ w.cell? ⟨g, off + k, none⟩ = some (I (ys.getD k 0))) := hB
  clear hu hv hA hB
  obtain ⟨ans, hans⟩ : ∃ ans, ans = decide (xs = ys) := ⟨_, rfl⟩
  rw [← hans]
  have HS : Hid (ans = decide (xs = ys)) := hans
  clear hans
  by_cases hl : (xs.length : Int) = ys.length
  · have hl' : ys.length = xs.length := by omega
    clear hl
    rw [hl'] at HB ⊢
    have HL : Hid (ys.length = xs.length) := hl'
    clear hl'
    go_enter Tryz.func13, Tryz.ntmps13
    go_wp2
    go_loopw [5] (fun i wr => ∃ k : Nat, k ≤ xs.length ∧ i = .int .i64 k ∧ Hid (xs.take k = ys.take k) ∧ Below w.heap.size w wr) (fun i _ => xs.length - (intOf i).toNat)
    case atStart => exact ⟨0, by omega, rfl, by show _ = _; simp, Below.refl _ _⟩
    case round =>
      obtain ⟨k, hk, rfl, HT, hT⟩ := hrel
      by_cases hlt : (k : Int) < (xs.length : Int)
      · have hkx : k < xs.length := by omega
        obtain ⟨g, off, rfl, hg, hc⟩ := HA.out k hkx
        obtain ⟨g', off', rfl, hg', hc'⟩ := HB.out k hkx
        have e0 : ∀ x : Ext wr, x.wd.cell? ⟨g, off + k, none⟩ = some (I (xs.getD k 0)) := fun x => ((below_ext hT x).cell (p := ⟨g, off + k, none⟩) hg).trans hc
        have e1 : ∀ x : Ext wr, x.wd.cell? ⟨g', off' + k, none⟩ = some (I (ys.getD k 0)) := fun x => ((below_ext hT x).cell (p := ⟨g', off' + k, none⟩) hg').trans hc'
        have HE : Hid (xs.getD k 0 = ys.getD k 0 → xs.take (k + 1) = ys.take (k + 1)) := take_eq_succ hkx (by have := HL.out; omega) HT.out
        have HD : Hid (xs.getD k 0 ≠ ys.getD k 0 → ans = false) := fun hne => by rw [HS.out, decide_eq_false_iff_not]; intro he; exact hne (by rw [he])
        clear hg hg' hc hc'
        generalize xs.getD k 0 = x at e0 HE HD
        generalize ys.getD k 0 = y at e1 HE HD
        cases hq : (x != y)
        · go_wp2
          refine wp_region_look hmx (by kernel_rfl) ?_
          repeat (go_big_quiet_step (fail))
          refine wpQuiet_nil ?_
          intro v
          go_wp2
          go_roundw
          case rel => exact ⟨k + 1, by omega, by go_num, HE.out (by simpa using hq), then_below hT v.le⟩
          case measure => simp [intOf]; omega
        · go_wp2
          refine wp_region_look hmx (by kernel_rfl) ?_
          repeat (go_big_quiet_step (fail))
          refine wpQuiet_nil ?_
          intro v
          go_wp2
          go_ret
          exact ⟨by rw [HD.out (by simpa using hq)]; rfl, then_below hT v.le⟩
      · have E : ans = true := by
          rw [HS.out, decide_eq_true_eq]
          have h1 := HT.out
          rwa [List.take_of_length_le (by omega), List.take_of_length_le (by have := HL.out; omega)] at h1
        subst E
        go_wp2
        go_ret
        exact ⟨rfl, hT⟩
  · have E : ans = false := by rw [HS.out, decide_eq_false_iff_not]; intro he; rw [he] at hl; exact hl rfl
    subst E
    go_enter Tryz.func13, Tryz.ntmps13
    go_wp2
    go_ret
    exact ⟨rfl, Below.refl _ _⟩

end Go.Proofs.YtbobfhoimhambaaGreatDoor
