/-
  tidehallref14.counted: how many sides lead from one list's midplanes to the other's. (Written by tools/gen/score_counted.py.)
-/
import Derived.Test.YtbedhpooeabehaaGreatDoorPart18
import Derived.Test.YtbedhpooeabehaaGreatDoorPart3
import Derived.Test.YtbedhpooeabehaaGreatDoorPart14
import Derived.Test.YtbedhpooeabehaaGreatDoorPart9
namespace Go.Proofs.YtbedhpooeabehaaGreatDoor
open Go Go.RowKit Go.Shelf

attribute [local go_sem] Oper.semAt_some ext_const

theorem sideF {d0 d1 d2 : Int} {p q : Int → Bool} (hd : mayD d0 d1 d2) (k : Fin 3) (m : Int) : (p m = false → sideK d0 d1 d2 p q k m = 0) ∧ (dimAt d0 d1 d2 k = 1 → sideK d0 d1 d2 p q k m = 0) ∧ (p m = true → dimAt d0 d1 d2 k ≠ 1 → sideK d0 d1 d2 p q k m = cntB (q (onD d0 d1 d2 m k 1)) + cntB (q (onD d0 d1 d2 m k (-1)))) := by
  have hk := dimAt_ok hd k
  unfold okD at hk
  exact ⟨fun h => side_out h, fun h => side_one (by omega), fun h h1 => side_in h (by omega)⟩

set_option maxRecDepth 100000 in
set_option maxHeartbeats 16000000 in
theorem counted_calls {d0 d1 d2 : Int} {u v : Value} {p q : Int → Bool} {b1 b2 : Nat} (w : World) (hd : mayD d0 d1 d2) (hu : Bo w b1 u (trL p (d0 * d1 * d2).toNat)) (hv : Bo w b2 v (trL q (d0 * d1 * d2).toNat)) :
    Calls Tryz.prog 13 #[A3 d0 d1 d2, u, v] w fun e W' => e = .returned (I (openS d0 d1 d2 p q)) ∧ Below w.heap.size w W' := by
  have hN := N_bd hd
  have HOn : Hid (∀ (m : Nat) (k : Fin 3) (by_ : Int) (w : World), (m : Int) < d0 * d1 * d2 → Calls Tryz.prog 28 #[A3 d0 d1 d2, I m, I (axI k), I by_] w fun x W' => x = .returned (I (onD d0 d1 d2 m k by_)) ∧ Below w.heap.size w W') := fun m k by_ w hm => ron_calls w hd ⟨by omega, hm⟩ k
  have HOb : Hid (∀ (m : Nat) (k : Fin 3) (by_ : Int), (m : Int) < d0 * d1 * d2 → 0 ≤ onD d0 d1 d2 m k by_ ∧ onD d0 d1 d2 m k by_ < d0 * d1 * d2) := fun m k by_ hm => on_node hd ⟨by omega, hm⟩ k by_
  have HSf : Hid (∀ (k : Fin 3) (m : Int), _) := fun k m => sideF (p := p) (q := q) hd k m
  have HSb : Hid (∀ (k : Fin 3) (m : Int), 0 ≤ sideK d0 d1 d2 p q k m ∧ sideK d0 d1 d2 p q k m ≤ 2) := fun k m => sideK_bd d0 d1 d2 p q k m
  have HTb : Hid (∀ m : Nat, 0 ≤ toI (sidesS d0 d1 d2 p q) m ∧ toI (sidesS d0 d1 d2 p q) m ≤ 6 * m) := fun m => to_bd d0 d1 d2 p q m
  have HTs : Hid (∀ m : Nat, toI (sidesS d0 d1 d2 p q) (m + 1) = toI (sidesS d0 d1 d2 p q) m + sideK d0 d1 d2 p q 0 m + sideK d0 d1 d2 p q 1 m + sideK d0 d1 d2 p q 2 m) := fun m => by
    show _ = _
    rw [toI, sidesS]
    omega
  rw [← open_to]
  obtain ⟨n, hn⟩ : ∃ n : Nat, d0 * d1 * d2 = n := ⟨(d0 * d1 * d2).toNat, by omega⟩
  rw [hn] at HOn HOb hN hu hv ⊢
  rw [Int.toNat_natCast] at hu hv ⊢
  obtain ⟨uo, uc, rfl, hu2⟩ := hu.tr
  obtain ⟨vo, vc, rfl, hv2⟩ := hv.tr
  have HU : Hid (∀ k : Nat, k < n → ∃ g, uo = some ⟨g, 0, none⟩ ∧ g < w.heap.size ∧ w.cell? ⟨g, k, none⟩ = some (.bool (p (k : Int)))) := hu2
  have HV : Hid (∀ k : Nat, k < n → ∃ g, vo = some ⟨g, 0, none⟩ ∧ g < w.heap.size ∧ w.cell? ⟨g, k, none⟩ = some (.bool (q (k : Int)))) := hv2
  have HT0 : Hid (toI (sidesS d0 d1 d2 p q) 0 = 0) := rfl
  clear hu hv hu2 hv2 hn hd
  generalize toI (sidesS d0 d1 d2 p q) = T at *
  have hT : Below w.heap.size w (w.alloc (.cells #[I d0, I d1, I d2] 23)) := (Below.refl _ w).alloc (Nat.le_refl _) _
  have b0 := Blk.new w 23 #[I d0, I d1, I d2]
  go_enter Tryz.func13, Tryz.ntmps13
  go_wp2
  go_loopw [7, 8] (fun c i wr => ∃ m : Nat, m ≤ n ∧ i = .int .i64 m ∧ (∃ x : Int, c = I x ∧ Hid (x = T m)) ∧ Blk wr w.heap.size 23 #[I d0, I d1, I d2] ∧ Below w.heap.size w wr) (fun c i _ => n - (RowKit.intOf i).toNat)
  case atStart => exact ⟨0, by omega, rfl, ⟨0, rfl, HT0.out.symm⟩, b0, hT⟩
  case round =>
    clear b0 hT HT0
    obtain ⟨m, hm, rfl, ⟨x, rfl, HX⟩, b0, hT⟩ := hrel
    by_cases hlt : (m : Int) < (n : Int)
    · have hmx : m < n := by omega
      obtain ⟨g, rfl, hg, hc⟩ := HU.out m hmx
      have HC : Hid (g < w.heap.size ∧ w.cell? ⟨g, m, none⟩ = some (.bool (p (m : Int)))) := ⟨hg, hc⟩
      have HXb : 0 ≤ x ∧ x ≤ 30000 := by
        have := HTb.out m
        rw [HX.out]
        omega
      have HE : Hid (T (m + 1) = x + sideK d0 d1 d2 p q 0 m + sideK d0 d1 d2 p q 1 m + sideK d0 d1 d2 p q 2 m) := by rw [HX.out]; exact HTs.out m
      have HF0 := HSf.out 0 (m : Int)
      have hb0 := HSb.out 0 (m : Int)
      have HA0 : Hid (∀ w : World, Calls Tryz.prog 28 #[A3 d0 d1 d2, I m, I 0, I 1] w fun x W' => x = .returned (I (onD d0 d1 d2 m 0 1)) ∧ Below w.heap.size w W') := fun w => HOn.out m 0 1 w hlt
      have HB0 : Hid (∀ w : World, Calls Tryz.prog 28 #[A3 d0 d1 d2, I m, I 0, I (-1)] w fun x W' => x = .returned (I (onD d0 d1 d2 m 0 (-1))) ∧ Below w.heap.size w W') := fun w => HOn.out m 0 (-1) w hlt
      obtain ⟨a0, ha0⟩ : ∃ a : Nat, onD d0 d1 d2 m 0 1 = a := ⟨(onD d0 d1 d2 m 0 1).toNat, by have := HOb.out m 0 1 hlt; omega⟩
      obtain ⟨c0, hc0⟩ : ∃ a : Nat, onD d0 d1 d2 m 0 (-1) = a := ⟨(onD d0 d1 d2 m 0 (-1)).toNat, by have := HOb.out m 0 (-1) hlt; omega⟩
      have HL0 : Hid (a0 < n ∧ c0 < n) := by
        have h1 := HOb.out m 0 1 hlt
        have h2 := HOb.out m 0 (-1) hlt
        exact ⟨by omega, by omega⟩
      rw [ha0] at HA0 HF0
      rw [hc0] at HB0 HF0
      simp only [dimAt] at HF0
      have HF0 : Hid ((p (m : Int) = false → sideK d0 d1 d2 p q 0 m = 0) ∧ (d0 = 1 → sideK d0 d1 d2 p q 0 m = 0) ∧ (p (m : Int) = true → d0 ≠ 1 → sideK d0 d1 d2 p q 0 m = cntB (q (a0 : Int)) + cntB (q (c0 : Int)))) := HF0
      generalize sideK d0 d1 d2 p q 0 m = s0 at *
      clear ha0 hc0
      have HF1 := HSf.out 1 (m : Int)
      have hb1 := HSb.out 1 (m : Int)
      have HA1 : Hid (∀ w : World, Calls Tryz.prog 28 #[A3 d0 d1 d2, I m, I 1, I 1] w fun x W' => x = .returned (I (onD d0 d1 d2 m 1 1)) ∧ Below w.heap.size w W') := fun w => HOn.out m 1 1 w hlt
      have HB1 : Hid (∀ w : World, Calls Tryz.prog 28 #[A3 d0 d1 d2, I m, I 1, I (-1)] w fun x W' => x = .returned (I (onD d0 d1 d2 m 1 (-1))) ∧ Below w.heap.size w W') := fun w => HOn.out m 1 (-1) w hlt
      obtain ⟨a1, ha1⟩ : ∃ a : Nat, onD d0 d1 d2 m 1 1 = a := ⟨(onD d0 d1 d2 m 1 1).toNat, by have := HOb.out m 1 1 hlt; omega⟩
      obtain ⟨c1, hc1⟩ : ∃ a : Nat, onD d0 d1 d2 m 1 (-1) = a := ⟨(onD d0 d1 d2 m 1 (-1)).toNat, by have := HOb.out m 1 (-1) hlt; omega⟩
      have HL1 : Hid (a1 < n ∧ c1 < n) := by
        have h1 := HOb.out m 1 1 hlt
        have h2 := HOb.out m 1 (-1) hlt
        exact ⟨by omega, by omega⟩
      rw [ha1] at HA1 HF1
      rw [hc1] at HB1 HF1
      simp only [dimAt] at HF1
      have HF1 : Hid ((p (m : Int) = false → sideK d0 d1 d2 p q 1 m = 0) ∧ (d1 = 1 → sideK d0 d1 d2 p q 1 m = 0) ∧ (p (m : Int) = true → d1 ≠ 1 → sideK d0 d1 d2 p q 1 m = cntB (q (a1 : Int)) + cntB (q (c1 : Int)))) := HF1
      generalize sideK d0 d1 d2 p q 1 m = s1 at *
      clear ha1 hc1
      have HF2 := HSf.out 2 (m : Int)
      have hb2 := HSb.out 2 (m : Int)
      have HA2 : Hid (∀ w : World, Calls Tryz.prog 28 #[A3 d0 d1 d2, I m, I 2, I 1] w fun x W' => x = .returned (I (onD d0 d1 d2 m 2 1)) ∧ Below w.heap.size w W') := fun w => HOn.out m 2 1 w hlt
      have HB2 : Hid (∀ w : World, Calls Tryz.prog 28 #[A3 d0 d1 d2, I m, I 2, I (-1)] w fun x W' => x = .returned (I (onD d0 d1 d2 m 2 (-1))) ∧ Below w.heap.size w W') := fun w => HOn.out m 2 (-1) w hlt
      obtain ⟨a2, ha2⟩ : ∃ a : Nat, onD d0 d1 d2 m 2 1 = a := ⟨(onD d0 d1 d2 m 2 1).toNat, by have := HOb.out m 2 1 hlt; omega⟩
      obtain ⟨c2, hc2⟩ : ∃ a : Nat, onD d0 d1 d2 m 2 (-1) = a := ⟨(onD d0 d1 d2 m 2 (-1)).toNat, by have := HOb.out m 2 (-1) hlt; omega⟩
      have HL2 : Hid (a2 < n ∧ c2 < n) := by
        have h1 := HOb.out m 2 1 hlt
        have h2 := HOb.out m 2 (-1) hlt
        exact ⟨by omega, by omega⟩
      rw [ha2] at HA2 HF2
      rw [hc2] at HB2 HF2
      simp only [dimAt] at HF2
      have HF2 : Hid ((p (m : Int) = false → sideK d0 d1 d2 p q 2 m = 0) ∧ (d2 = 1 → sideK d0 d1 d2 p q 2 m = 0) ∧ (p (m : Int) = true → d2 ≠ 1 → sideK d0 d1 d2 p q 2 m = cntB (q (a2 : Int)) + cntB (q (c2 : Int)))) := HF2
      generalize sideK d0 d1 d2 p q 2 m = s2 at *
      clear ha2 hc2
      clear hg hc HSf HSb HTs HOn HOb HU
      generalize p (m : Int) = pm at *
      go_wp2
      go_loopw [7, 9] (fun c i wr => (∃ y : Int, c = I y ∧ ((i = I 0 ∧ Hid (y = x)) ∨ (i = I 1 ∧ Hid (y = x + s0)) ∨ (i = I 2 ∧ Hid (y = x + s0 + s1)) ∨ (i = I 3 ∧ Hid (y = x + s0 + s1 + s2)))) ∧ Blk wr w.heap.size 23 #[I d0, I d1, I d2] ∧ Below w.heap.size w wr) (fun c i _ => 3 - (RowKit.intOf i).toNat)
      case atStart => exact ⟨⟨x, rfl, .inl ⟨rfl, rfl⟩⟩, b0, hT⟩
      case round =>
        clear b0 hT
        rename World => wr2
        obtain ⟨⟨y, rfl, hrel⟩, b0, hT⟩ := hrel
        rcases hrel with ⟨rfl, HY⟩ | ⟨rfl, HY⟩ | ⟨rfl, HY⟩ | ⟨rfl, HY⟩
        · have hyb : 0 ≤ y ∧ y ≤ 30010 := by rw [HY.out]; omega
          obtain ⟨e0, e1, e2, ez⟩ := b0.three (Below.refl _ _)
          have cg := (hT.cell (p := ⟨g, m, none⟩) HC.out.1).trans HC.out.2
          have zg := Nat.lt_of_lt_of_le HC.out.1 hT.size
          cases pm
          · have HZ : Hid (y = x + s0) := by
              show _ = _
              rw [HY.out, HF0.out.1 rfl]
              omega
            clear HY
            go_wp2
            go_roundw
            case rel => exact ⟨⟨y, rfl, .inr (.inl (⟨rfl, HZ⟩))⟩, b0, hT⟩
            case measure => simp [RowKit.intOf]
          · by_cases h1 : d0 = 1
            · have HZ : Hid (y = x + s0) := by
                show _ = _
                rw [HY.out, HF0.out.2.1 h1]
                omega
              clear HY
              go_wp2
              go_roundw
              case rel => exact ⟨⟨y, rfl, .inr (.inl (⟨rfl, HZ⟩))⟩, b0, hT⟩
              case measure => simp [RowKit.intOf]
            · have HZ : Hid (s0 = cntB (q (a0 : Int)) + cntB (q (c0 : Int))) := HF0.out.2.2 rfl h1
              obtain ⟨gv, rfl, hgv, hca⟩ := HV.out a0 HL0.out.1
              obtain ⟨gv2, hgv2, _, hcc⟩ := HV.out c0 HL0.out.2
              obtain rfl : gv = gv2 := by cases hgv2; rfl
              clear hgv2
              have hlk := HL0.out
              have HCa : Hid (w.cell? ⟨gv, a0, none⟩ = some (.bool (q (a0 : Int))) ∧ w.cell? ⟨gv, c0, none⟩ = some (.bool (q (c0 : Int))) ∧ gv < w.heap.size) := ⟨hca, hcc, hgv⟩
              clear hca hcc hgv
              generalize q (a0 : Int) = qa at *
              generalize q (c0 : Int) = qc at *
              go_wp2_with fail
              refine (HA0.out _).mono ?_
              rintro e w3 ⟨rfl, hB⟩
              replace b0 := b0.later hB
              replace hT := then_below hT hB
              clear hB e0 e1 e2 ez cg zg
              obtain ⟨e0, e1, e2, ez⟩ := b0.three (Below.refl _ _)
              have cv := (hT.cell (p := ⟨gv, a0, none⟩) HCa.out.2.2).trans HCa.out.1
              have zv := Nat.lt_of_lt_of_le HCa.out.2.2 hT.size
              cases qa
              · go_wp2_with fail
                refine (HB0.out _).mono ?_
                rintro e w4 ⟨rfl, hB⟩
                replace b0 := b0.later hB
                replace hT := then_below hT hB
                clear hB e0 e1 e2 ez cv zv
                have cv := (hT.cell (p := ⟨gv, c0, none⟩) HCa.out.2.2).trans HCa.out.2.1
                have zv := Nat.lt_of_lt_of_le HCa.out.2.2 hT.size
                cases qc
                · have HZ2 : Hid (y = x + s0) := by
                    show _ = _
                    rw [HY.out, HZ.out]
                    simp only [cntB]
                    simp
                    try omega
                  clear HY HZ
                  go_wp2
                  go_roundw
                  case rel => exact ⟨⟨y, rfl, .inr (.inl (⟨rfl, HZ2⟩))⟩, b0, hT⟩
                  case measure => simp [RowKit.intOf]
                · have HZ2 : Hid (y + 1 = x + s0) := by
                    show _ = _
                    rw [HY.out, HZ.out]
                    simp only [cntB]
                    simp
                    try omega
                  clear HY HZ
                  go_wp2
                  go_roundw
                  case rel => exact ⟨⟨y + 1, rfl, .inr (.inl (⟨rfl, HZ2⟩))⟩, b0, hT⟩
                  case measure => simp [RowKit.intOf]
              · go_wp2_with fail
                refine (HB0.out _).mono ?_
                rintro e w4 ⟨rfl, hB⟩
                replace b0 := b0.later hB
                replace hT := then_below hT hB
                clear hB e0 e1 e2 ez cv zv
                have cv := (hT.cell (p := ⟨gv, c0, none⟩) HCa.out.2.2).trans HCa.out.2.1
                have zv := Nat.lt_of_lt_of_le HCa.out.2.2 hT.size
                cases qc
                · have HZ2 : Hid (y + 1 = x + s0) := by
                    show _ = _
                    rw [HY.out, HZ.out]
                    simp only [cntB]
                    simp
                    try omega
                  clear HY HZ
                  go_wp2
                  go_roundw
                  case rel => exact ⟨⟨y + 1, rfl, .inr (.inl (⟨rfl, HZ2⟩))⟩, b0, hT⟩
                  case measure => simp [RowKit.intOf]
                · have HZ2 : Hid (y + 1 + 1 = x + s0) := by
                    show _ = _
                    rw [HY.out, HZ.out]
                    simp only [cntB]
                    simp
                    try omega
                  clear HY HZ
                  go_wp2
                  go_roundw
                  case rel => exact ⟨⟨y + 1 + 1, rfl, .inr (.inl (⟨rfl, HZ2⟩))⟩, b0, hT⟩
                  case measure => simp [RowKit.intOf]
        · have hyb : 0 ≤ y ∧ y ≤ 30010 := by rw [HY.out]; omega
          obtain ⟨e0, e1, e2, ez⟩ := b0.three (Below.refl _ _)
          have cg := (hT.cell (p := ⟨g, m, none⟩) HC.out.1).trans HC.out.2
          have zg := Nat.lt_of_lt_of_le HC.out.1 hT.size
          cases pm
          · have HZ : Hid (y = x + s0 + s1) := by
              show _ = _
              rw [HY.out, HF1.out.1 rfl]
              omega
            clear HY
            go_wp2
            go_roundw
            case rel => exact ⟨⟨y, rfl, .inr (.inr (.inl (⟨rfl, HZ⟩)))⟩, b0, hT⟩
            case measure => simp [RowKit.intOf]
          · by_cases h1 : d1 = 1
            · have HZ : Hid (y = x + s0 + s1) := by
                show _ = _
                rw [HY.out, HF1.out.2.1 h1]
                omega
              clear HY
              go_wp2
              go_roundw
              case rel => exact ⟨⟨y, rfl, .inr (.inr (.inl (⟨rfl, HZ⟩)))⟩, b0, hT⟩
              case measure => simp [RowKit.intOf]
            · have HZ : Hid (s1 = cntB (q (a1 : Int)) + cntB (q (c1 : Int))) := HF1.out.2.2 rfl h1
              obtain ⟨gv, rfl, hgv, hca⟩ := HV.out a1 HL1.out.1
              obtain ⟨gv2, hgv2, _, hcc⟩ := HV.out c1 HL1.out.2
              obtain rfl : gv = gv2 := by cases hgv2; rfl
              clear hgv2
              have hlk := HL1.out
              have HCa : Hid (w.cell? ⟨gv, a1, none⟩ = some (.bool (q (a1 : Int))) ∧ w.cell? ⟨gv, c1, none⟩ = some (.bool (q (c1 : Int))) ∧ gv < w.heap.size) := ⟨hca, hcc, hgv⟩
              clear hca hcc hgv
              generalize q (a1 : Int) = qa at *
              generalize q (c1 : Int) = qc at *
              go_wp2_with fail
              refine (HA1.out _).mono ?_
              rintro e w3 ⟨rfl, hB⟩
              replace b0 := b0.later hB
              replace hT := then_below hT hB
              clear hB e0 e1 e2 ez cg zg
              obtain ⟨e0, e1, e2, ez⟩ := b0.three (Below.refl _ _)
              have cv := (hT.cell (p := ⟨gv, a1, none⟩) HCa.out.2.2).trans HCa.out.1
              have zv := Nat.lt_of_lt_of_le HCa.out.2.2 hT.size
              cases qa
              · go_wp2_with fail
                refine (HB1.out _).mono ?_
                rintro e w4 ⟨rfl, hB⟩
                replace b0 := b0.later hB
                replace hT := then_below hT hB
                clear hB e0 e1 e2 ez cv zv
                have cv := (hT.cell (p := ⟨gv, c1, none⟩) HCa.out.2.2).trans HCa.out.2.1
                have zv := Nat.lt_of_lt_of_le HCa.out.2.2 hT.size
                cases qc
                · have HZ2 : Hid (y = x + s0 + s1) := by
                    show _ = _
                    rw [HY.out, HZ.out]
                    simp only [cntB]
                    simp
                    try omega
                  clear HY HZ
                  go_wp2
                  go_roundw
                  case rel => exact ⟨⟨y, rfl, .inr (.inr (.inl (⟨rfl, HZ2⟩)))⟩, b0, hT⟩
                  case measure => simp [RowKit.intOf]
                · have HZ2 : Hid (y + 1 = x + s0 + s1) := by
                    show _ = _
                    rw [HY.out, HZ.out]
                    simp only [cntB]
                    simp
                    try omega
                  clear HY HZ
                  go_wp2
                  go_roundw
                  case rel => exact ⟨⟨y + 1, rfl, .inr (.inr (.inl (⟨rfl, HZ2⟩)))⟩, b0, hT⟩
                  case measure => simp [RowKit.intOf]
              · go_wp2_with fail
                refine (HB1.out _).mono ?_
                rintro e w4 ⟨rfl, hB⟩
                replace b0 := b0.later hB
                replace hT := then_below hT hB
                clear hB e0 e1 e2 ez cv zv
                have cv := (hT.cell (p := ⟨gv, c1, none⟩) HCa.out.2.2).trans HCa.out.2.1
                have zv := Nat.lt_of_lt_of_le HCa.out.2.2 hT.size
                cases qc
                · have HZ2 : Hid (y + 1 = x + s0 + s1) := by
                    show _ = _
                    rw [HY.out, HZ.out]
                    simp only [cntB]
                    simp
                    try omega
                  clear HY HZ
                  go_wp2
                  go_roundw
                  case rel => exact ⟨⟨y + 1, rfl, .inr (.inr (.inl (⟨rfl, HZ2⟩)))⟩, b0, hT⟩
                  case measure => simp [RowKit.intOf]
                · have HZ2 : Hid (y + 1 + 1 = x + s0 + s1) := by
                    show _ = _
                    rw [HY.out, HZ.out]
                    simp only [cntB]
                    simp
                    try omega
                  clear HY HZ
                  go_wp2
                  go_roundw
                  case rel => exact ⟨⟨y + 1 + 1, rfl, .inr (.inr (.inl (⟨rfl, HZ2⟩)))⟩, b0, hT⟩
                  case measure => simp [RowKit.intOf]
        · have hyb : 0 ≤ y ∧ y ≤ 30010 := by rw [HY.out]; omega
          obtain ⟨e0, e1, e2, ez⟩ := b0.three (Below.refl _ _)
          have cg := (hT.cell (p := ⟨g, m, none⟩) HC.out.1).trans HC.out.2
          have zg := Nat.lt_of_lt_of_le HC.out.1 hT.size
          cases pm
          · have HZ : Hid (y = x + s0 + s1 + s2) := by
              show _ = _
              rw [HY.out, HF2.out.1 rfl]
              omega
            clear HY
            go_wp2
            go_roundw
            case rel => exact ⟨⟨y, rfl, .inr (.inr (.inr (⟨rfl, HZ⟩)))⟩, b0, hT⟩
            case measure => simp [RowKit.intOf]
          · by_cases h1 : d2 = 1
            · have HZ : Hid (y = x + s0 + s1 + s2) := by
                show _ = _
                rw [HY.out, HF2.out.2.1 h1]
                omega
              clear HY
              go_wp2
              go_roundw
              case rel => exact ⟨⟨y, rfl, .inr (.inr (.inr (⟨rfl, HZ⟩)))⟩, b0, hT⟩
              case measure => simp [RowKit.intOf]
            · have HZ : Hid (s2 = cntB (q (a2 : Int)) + cntB (q (c2 : Int))) := HF2.out.2.2 rfl h1
              obtain ⟨gv, rfl, hgv, hca⟩ := HV.out a2 HL2.out.1
              obtain ⟨gv2, hgv2, _, hcc⟩ := HV.out c2 HL2.out.2
              obtain rfl : gv = gv2 := by cases hgv2; rfl
              clear hgv2
              have hlk := HL2.out
              have HCa : Hid (w.cell? ⟨gv, a2, none⟩ = some (.bool (q (a2 : Int))) ∧ w.cell? ⟨gv, c2, none⟩ = some (.bool (q (c2 : Int))) ∧ gv < w.heap.size) := ⟨hca, hcc, hgv⟩
              clear hca hcc hgv
              generalize q (a2 : Int) = qa at *
              generalize q (c2 : Int) = qc at *
              go_wp2_with fail
              refine (HA2.out _).mono ?_
              rintro e w3 ⟨rfl, hB⟩
              replace b0 := b0.later hB
              replace hT := then_below hT hB
              clear hB e0 e1 e2 ez cg zg
              obtain ⟨e0, e1, e2, ez⟩ := b0.three (Below.refl _ _)
              have cv := (hT.cell (p := ⟨gv, a2, none⟩) HCa.out.2.2).trans HCa.out.1
              have zv := Nat.lt_of_lt_of_le HCa.out.2.2 hT.size
              cases qa
              · go_wp2_with fail
                refine (HB2.out _).mono ?_
                rintro e w4 ⟨rfl, hB⟩
                replace b0 := b0.later hB
                replace hT := then_below hT hB
                clear hB e0 e1 e2 ez cv zv
                have cv := (hT.cell (p := ⟨gv, c2, none⟩) HCa.out.2.2).trans HCa.out.2.1
                have zv := Nat.lt_of_lt_of_le HCa.out.2.2 hT.size
                cases qc
                · have HZ2 : Hid (y = x + s0 + s1 + s2) := by
                    show _ = _
                    rw [HY.out, HZ.out]
                    simp only [cntB]
                    simp
                    try omega
                  clear HY HZ
                  go_wp2
                  go_roundw
                  case rel => exact ⟨⟨y, rfl, .inr (.inr (.inr (⟨rfl, HZ2⟩)))⟩, b0, hT⟩
                  case measure => simp [RowKit.intOf]
                · have HZ2 : Hid (y + 1 = x + s0 + s1 + s2) := by
                    show _ = _
                    rw [HY.out, HZ.out]
                    simp only [cntB]
                    simp
                    try omega
                  clear HY HZ
                  go_wp2
                  go_roundw
                  case rel => exact ⟨⟨y + 1, rfl, .inr (.inr (.inr (⟨rfl, HZ2⟩)))⟩, b0, hT⟩
                  case measure => simp [RowKit.intOf]
              · go_wp2_with fail
                refine (HB2.out _).mono ?_
                rintro e w4 ⟨rfl, hB⟩
                replace b0 := b0.later hB
                replace hT := then_below hT hB
                clear hB e0 e1 e2 ez cv zv
                have cv := (hT.cell (p := ⟨gv, c2, none⟩) HCa.out.2.2).trans HCa.out.2.1
                have zv := Nat.lt_of_lt_of_le HCa.out.2.2 hT.size
                cases qc
                · have HZ2 : Hid (y + 1 = x + s0 + s1 + s2) := by
                    show _ = _
                    rw [HY.out, HZ.out]
                    simp only [cntB]
                    simp
                    try omega
                  clear HY HZ
                  go_wp2
                  go_roundw
                  case rel => exact ⟨⟨y + 1, rfl, .inr (.inr (.inr (⟨rfl, HZ2⟩)))⟩, b0, hT⟩
                  case measure => simp [RowKit.intOf]
                · have HZ2 : Hid (y + 1 + 1 = x + s0 + s1 + s2) := by
                    show _ = _
                    rw [HY.out, HZ.out]
                    simp only [cntB]
                    simp
                    try omega
                  clear HY HZ
                  go_wp2
                  go_roundw
                  case rel => exact ⟨⟨y + 1 + 1, rfl, .inr (.inr (.inr (⟨rfl, HZ2⟩)))⟩, b0, hT⟩
                  case measure => simp [RowKit.intOf]
        · have HZ : Hid (y = T (m + 1)) := by
            show _ = _
            rw [HY.out, HE.out]
          clear HY
          go_wp2
          go_roundw
          case rel => exact ⟨m + 1, by omega, by go_num, ⟨y, rfl, HZ⟩, b0, hT⟩
          case measure => simp [RowKit.intOf]; omega
    · obtain rfl : n = m := by omega
      clear b0
      go_wp2
      go_ret
      exact ⟨by rw [← HX.out]; rfl, hT⟩

end Go.Proofs.YtbedhpooeabehaaGreatDoor

/-
  As Loud, where the operations from number k on come last, each the only one that may come up: they wait, if only through others, for all of the beginning.
-/
namespace Go.Proofs.YtbedhpooeabehaaGreatDoor
open Go Go.RowKit Go.Shelf

section
variable {F : Fence} {n : Nat} {P : Program}

/-- For what an operation waits. -/
def depsOf (l : List Oper) (t : Nat) : List Nat := match l[t]? with | some o => (o.after.toList.filter fun e => Region.binds .any e).map (·.on) | none => []
/-- It waits for another one, if only through others. -/
def needB (l : List Oper) : Nat → Nat → Nat → Bool
  | 0, _, _ => false
  | f + 1, t, i => (depsOf l t).any fun j => j == i || needB l f j i
/-- The beginning, of k operations: each writes a slot of its own, waits for such as stand ahead alone; all the others wait for each of it. -/
def soloB3 (l : List Oper) (k m : Nat) : Bool :=
  decide (k ≤ l.length) && ((l.take k).all fun o => o.guard.isNone && o.dst.isSome) && ((List.range k).all fun i => decide (dstOf (l.take k) i < m) && (List.range k).all fun j => i == j || dstOf (l.take k) i != dstOf (l.take k) j) && noDefer l.toArray &&
  ((List.range k).all fun t => match l[t]? with | some o => backOnly o t | none => true) &&
  ((List.range (l.length - k)).all fun t => (List.range k).all fun i => needB l 6 (k + t) i) &&
  Region.seqB .any l.toArray (l.length - k) k (both (Array.replicate k true) (l.length - k))

def Closed (l : List Oper) (L : Array Bool) : Prop := ∀ t, L.getD t false = true → ∀ j ∈ depsOf l t, L.getD j false = true
theorem need_in {l : List Oper} {L : Array Bool} (hc : Closed l L) : ∀ (f t i : Nat), needB l f t i = true → (∀ j ∈ depsOf l t, L.getD j false = true) → L.getD i false = true
  | 0, _, _, h, _ => by cases h
  | f + 1, t, i, h, hd => by
    obtain ⟨j, hj, hij⟩ := List.any_eq_true.1 h
    rcases (Bool.or_eq_true_iff.1 hij) with e | e
    · have : j = i := by simpa using e
      exact this ▸ hd j hj
    · exact need_in hc f j i e (hc j (hd j hj))
theorem mem_deps {l : List Oper} {t : Nat} {o : Oper} (ho : l[t]? = some o) {j : Nat} : j ∈ depsOf l t ↔ ∃ e ∈ o.after, Region.binds .any e = true ∧ e.on = j := by
  unfold depsOf
  rw [ho]
  simp only [List.mem_map, List.mem_filter, Array.mem_toList_iff]
  exact ⟨fun ⟨e, ⟨h1, h2⟩, h3⟩ => ⟨e, h1, h2, h3⟩, fun ⟨e, h1, h2, h3⟩ => ⟨e, ⟨h1, h2⟩, h3⟩⟩

/-- An operation that comes to a value, and it may be to a turned world. -/
theorem wpListIn_value {ops : Array Oper} {rest : List Oper} {o : Oper} {a : Act} {Q : Exit → Act → World → Prop} {w w' : World} {v : Value} (hF : Loose F P) (hgd : o.guard = none) (hd : ∀ c, o.op ≠ .defer c)
    (hrun : (execOp a.eval o).run P w = .ok (.value v) w') (h : wpListIn F n P ops Q rest (a.put o.dst v) w') : wpListIn F n P ops Q (o :: rest) a w := by
  have hfn : ∀ f, o.about P w a.eval = some f → F.fn f := fun f _ => hF.fn f
  unfold wpListIn
  simp only [Region.wanted, hgd, if_true]
  refine ⟨hfn, ?_⟩
  rw [Oper.semAt_eq _ _ _ hd, hrun]
  exact h

variable {l : List Oper} {a0 : Act} {w0 : World} {Q : Exit → Act → World → Prop} {S : Nat → Value → World → Prop} {k : Nat}

theorem any_loud3 (hF : Loose F P) (hB : soloB3 l k a0.tmps.size = true)
    (hS : ∀ i v w w', S i v w → Below w.heap.size w w' → S i v w')
    (hop : ∀ (i : Nat) (o : Oper), (l.take k)[i]? = some o → ∀ (a : Act) (w : World), Below w0.heap.size w0 w → Like (l.take k) a0 a → (∀ e ∈ o.after, Region.binds .any e = true → S e.on (slot (l.take k) a e.on) w) → Comes P o a w (S i))
    (hend : ∀ (a : Act) (w : World), Below w0.heap.size w0 w → Like (l.take k) a0 a → (∀ i, i < k → S i (slot (l.take k) a i) w) → wpListIn F n P l.toArray Q (l.drop k) a w) :
    ∀ (f : Nat) (L : Array Bool) (a : Act) (w : World), L.size = l.length → L.toList.count false ≤ f → Below w0.heap.size w0 w → Like (l.take k) a0 a → (∀ i, i < k → L.getD i false = true → S i (slot (l.take k) a i) w) → (∀ t, k ≤ t → L.getD t false = false) → Closed l L → wpAnyIn F n P .any l.toArray Q f L a w := by
  simp only [soloB3, Bool.and_eq_true] at hB
  obtain ⟨⟨⟨⟨⟨⟨hk, hB1⟩, hB2⟩, hnd⟩, hback⟩, hneed⟩, hseq⟩ := hB
  have hk : k ≤ l.length := of_decide_eq_true hk
  have hlen : (l.take k).length = k := by simp [hk]
  have same : ∀ i, i < k → (l.take k)[i]? = l[i]? := fun i hi => by simp [hi]
  have back : ∀ i o, i < k → l[i]? = some o → ∀ j ∈ depsOf l i, j < i := fun i o hi ho j hj => by
    have h1 := List.all_eq_true.1 hback i (List.mem_range.2 hi)
    rw [ho] at h1
    obtain ⟨e, he, hb, rfl⟩ := (mem_deps ho).1 hj
    have := Array.all_eq_true'.1 (Bool.and_eq_true_iff.1 h1).1 e he
    simpa [hb] using this
  have need : ∀ t, k ≤ t → t < l.length → ∀ i, i < k → needB l 6 t i = true := fun t h1 h2 i hi => by
    have h3 := List.all_eq_true.1 hneed (t - k) (List.mem_range.2 (by omega))
    have := List.all_eq_true.1 h3 i (List.mem_range.2 hi)
    rwa [show k + (t - k) = t by omega] at this
  have solo : ∀ i o, i < k → l[i]? = some o → o.guard = none ∧ o.dst = some (dstOf (l.take k) i) ∧ dstOf (l.take k) i < a0.tmps.size ∧ ∀ j, j < k → j ≠ i → dstOf (l.take k) i ≠ dstOf (l.take k) j := fun i o hi ho => by
    have ho' : (l.take k)[i]? = some o := (same i hi).trans ho
    obtain ⟨hlt, he⟩ := List.getElem?_eq_some_iff.1 ho'
    have k1 := List.all_eq_true.1 hB1 o (he ▸ List.getElem_mem hlt)
    simp only [Bool.and_eq_true, Option.isNone_iff_eq_none] at k1
    have k2 := List.all_eq_true.1 hB2 i (List.mem_range.2 hi)
    simp only [Bool.and_eq_true, decide_eq_true_eq] at k2
    refine ⟨k1.1, ?_, k2.1, fun j hj hne => ?_⟩
    · obtain ⟨d, hd⟩ := Option.isSome_iff_exists.1 k1.2
      simp [dstOf, ho', hd]
    · have := List.all_eq_true.1 k2.2 j (List.mem_range.2 hj)
      simp only [Bool.or_eq_true, beq_iff_eq, bne_iff_ne] at this
      rcases this with e | e
      · exact absurd e.symm hne
      · exact e
  have full : ∀ (f : Nat) (L : Array Bool) (a : Act) (w : World), L.size = l.length → L.toList.count false ≤ f → Below w0.heap.size w0 w → Like (l.take k) a0 a → (∀ i, i < k → L.getD i false = true → S i (slot (l.take k) a i) w) → (∀ t, k ≤ t → L.getD t false = false) → (∀ i, i < k → L.getD i false = true) → wpAnyIn F n P .any l.toArray Q f L a w := by
    intro f L a w hs hc hT hL hA hno hall
    have eL : L = both (Array.replicate k true) (l.length - k) := by
      refine Array.ext (by simp [both]; omega) fun i h1 h2 => ?_
      by_cases hi : i < k
      · have := hall i hi
        simpa [Array.getD, h1, both, Array.getElem_append_left, hi] using this
      · have := hno i (by omega)
        simp only [Array.getD, h1, dif_pos] at this
        rw [show L[i] = false from this]
        have h3 : (both (Array.replicate k true) (l.length - k)).getD i false = false := by
          unfold both
          rw [Array.getD_eq_getD_getElem?, Array.getElem?_append_right (by simp; omega)]
          simp [Array.getElem?_replicate]
          split <;> rfl
        rw [Array.getD, dif_pos h2] at h3
        exact h3.symm
    have hcount : l.length - k ≤ L.toList.count false := by
      rw [eL]
      simp [both]
    exact any_forced (l.drop k) k L f a w (fun j => by simp) (by rw [eL]; simpa using hseq) (by simp; omega) (hend a w hT hL fun i hi => hA i hi (hall i hi))
  intro f
  induction f with
  | zero =>
    intro L a w hs hc hT hL hA hno hcl
    refine full 0 L a w hs hc hT hL hA hno fun i hi => ?_
    cases hv : L.getD i false with
    | true => rfl
    | false =>
      exfalso
      have h0 : L.toList.count false = 0 := by omega
      rw [List.count_eq_zero] at h0
      refine h0 ?_
      have hlt : i < L.size := by omega
      rw [Array.getD, dif_pos hlt] at hv
      have hv : L[i] = false := hv
      rw [← hv]
      exact Array.getElem_mem_toList hlt
  | succ f ih =>
    intro L a w hs hc hT hL hA hno hcl
    by_cases hfull : ∀ i, i < k → L.getD i false = true
    · exact full (f + 1) L a w hs hc hT hL hA hno hfull
    · refine ⟨fun hr => ?_, fun i hi => ?_⟩
      · exfalso
        refine hfull fun i => ?_
        induction i using Nat.strongRecOn with
        | _ i ih' =>
          intro hi
          cases hv : L.getD i false with
          | true => rfl
          | false =>
            have hil : i < l.length := by omega
            have hmem : i ∈ Region.ready .any l.toArray L := by
              rw [mem_ready]
              refine ⟨getD_in (by omega) hv, l[i], by simp [hil], fun e he hb => ?_⟩
              have hlt := back i l[i] hi (List.getElem?_eq_getElem hil) e.on ((mem_deps (List.getElem?_eq_getElem hil)).2 ⟨e, he, hb, rfl⟩)
              exact ih' e.on hlt (by omega)
            rw [hr] at hmem
            cases hmem
      · obtain ⟨h1, o, ho, hall⟩ := mem_ready.1 hi
        have hol : l[i]? = some o := by simpa using ho
        have hil : i < l.length := (List.getElem?_eq_some_iff.1 hol).1
        have hdeps : ∀ j ∈ depsOf l i, L.getD j false = true := fun j hj => by
          obtain ⟨e, he, hb, rfl⟩ := (mem_deps hol).1 hj
          exact hall e he hb
        have hik : i < k := by
          rcases Nat.lt_or_ge i k with h | h
          · exact h
          · exact absurd (fun j hj => need_in hcl 6 i j (need i h hil j hj) hdeps) hfull
        obtain ⟨hg, hd, hlt, hne⟩ := solo i o hik hol
        have hcome := hop i o ((same i hik).trans hol) a w hT hL (fun e he hb => hA e.on (by have := back i o hik hol e.on ((mem_deps hol).2 ⟨e, he, hb, rfl⟩); omega) (hall e he hb))
        have hnot : L.toList[i]? = some false := by
          have hlt' : i < L.size := by omega
          rw [Array.getD, dif_pos hlt'] at h1
          rw [Array.getElem?_toList, Array.getElem?_eq_getElem hlt']
          exact congrArg some h1
        have hset : ∀ j, (L.setIfInBounds i true).getD j false = true → j = i ∨ L.getD j false = true := fun j hj => by
          by_cases hij : j = i
          · exact .inl hij
          · rw [Array.getD_eq_getD_getElem?, Array.getElem?_setIfInBounds_ne (Ne.symm hij), ← Array.getD_eq_getD_getElem?] at hj
            exact .inr hj
        have hkeep : ∀ j, L.getD j false = true → (L.setIfInBounds i true).getD j false = true := fun j hj => by
          by_cases hij : j = i
          · subst hij
            have hlt' : j < L.size := by omega
            simp [Array.getD, hlt']
          · rw [Array.getD_eq_getD_getElem?, Array.getElem?_setIfInBounds_ne (Ne.symm hij), ← Array.getD_eq_getD_getElem?]
            exact hj
        have hnext : ∀ (v : Value) (w' : World), Below w.heap.size w w' → S i v w' → wpAnyIn F n P .any l.toArray Q f (L.setIfInBounds i true) (a.put o.dst v) w' := by
          intro v w' hB' hv
          rw [hd]
          refine ih _ _ w' (by simpa using hs) ?_ (then_below hT hB') ⟨?_, ?_, ?_⟩ ?_ ?_ ?_
          · have := count_set L.toList i hnot
            rw [Array.toList_setIfInBounds]
            omega
          · simp [Act.put]; exact hL.size
          · simp [Act.put]; exact hL.defers
          · intro t ht
            rw [put_ne (ht i (by rw [hlen]; exact hik))]
            exact hL.out t ht
          · intro j hjk hj
            by_cases hij : j = i
            · subst hij
              show S j ((a.put (some (dstOf (l.take k) j)) v).tmps.getD (dstOf (l.take k) j) undef) w'
              rw [put_at (by rw [hL.size]; exact hlt)]
              exact hv
            · rcases hset j hj with e | hjl
              · exact absurd e hij
              · show S j ((a.put (some (dstOf (l.take k) i)) v).tmps.getD (dstOf (l.take k) j) undef) w'
                rw [getD_ne (hne j hjk hij)]
                exact hS _ _ _ _ (hA j hjk hjl) hB'
          · intro t ht
            have hti : t ≠ i := by omega
            rw [Array.getD_eq_getD_getElem?, Array.getElem?_setIfInBounds_ne (Ne.symm hti), ← Array.getD_eq_getD_getElem?]
            exact hno t ht
          · intro t ht j hj
            rcases hset t ht with rfl | ht'
            · exact hkeep j (hdeps j hj)
            · exact hkeep j (hcl t ht' j hj)
        have hfn : ∀ f, o.about P w a.eval = some f → F.fn f := fun f _ => hF.fn f
        simp only [wpOpIn, ho, Region.wanted, hg, if_true]
        refine ⟨hfn, ?_⟩
        rw [Oper.semAt_eq _ _ _ (noDefer_spec hnd ho)]
        rcases hcome with ⟨v, e, hv⟩ | ⟨g, args, e, hc'⟩
        · rw [e]; exact hnext v w (Below.refl _ _) hv
        · rw [e]
          refine ⟨fun hx => (hF.depth hx).elim, hF.calls _ _ _ _ _ (hc'.mono ?_)⟩
          rintro x w' ⟨v, rfl, hB', hv⟩
          exact hnext v w' hB' hv

/-- In whatever order the beginning goes: each of its operations' words holds when the rest begins. -/
theorem wp_region_loud3 {id : Nat} (k : Nat) (S : Nat → Value → World → Prop) (hm : P.follows .mixedOrders = true) (hB : soloB3 l k a0.tmps.size = true)
    (hS : ∀ i v w w', S i v w → Below w.heap.size w w' → S i v w')
    (hop : ∀ (i : Nat) (o : Oper), (l.take k)[i]? = some o → ∀ (a : Act) (w : World), Below w0.heap.size w0 w → Like (l.take k) a0 a → (∀ e ∈ o.after, Region.binds .any e = true → S e.on (slot (l.take k) a e.on) w) → Comes P o a w (S i))
    (hend : ∀ (v : Nat → Value) (w : World), Below w0.heap.size w0 w → (∀ i, i < k → S i (v i) w) → wpListIn Fence.wide 0 P l.toArray Q (l.drop k) ((List.range (l.take k).length).foldl (fun b i => b.put (some (dstOf (l.take k) i)) (v i)) a0) w) :
    (Code.region id l.toArray true).wp P Q a0 w0 := by
  refine (wpIn_wide (n := 0)).1 (wpIn_region_any hm ?_)
  refine any_loud3 (loose_wide P) hB hS hop (fun a w hT hL hA => ?_) _ _ _ _ (by simp) (by simp) ((Below.refl _ w0).drew) ⟨rfl, rfl, fun _ _ => rfl⟩ (fun i _ hi => ?_) (fun t _ => ?_) (fun t ht => ?_)
  · rw [like_puts hL]
    exact hend (slot (l.take k) a) w hT hA
  · exfalso
    rw [Array.getD_eq_getD_getElem?] at hi
    simp [Array.getElem?_replicate] at hi
    split at hi <;> simp at hi
  · rw [Array.getD_eq_getD_getElem?]
    simp [Array.getElem?_replicate]
    split <;> simp
  · exfalso
    rw [Array.getD_eq_getD_getElem?] at ht
    simp [Array.getElem?_replicate] at ht
    split at ht <;> simp at ht
end

/-- 'append(list, more...)', as one operation: what it comes to. -/
theorem cat_run {o : Oper} {a : Act} {W : World} {base b2 : Nat} {v u : Value} {xs ys : List Int} (s x : Operand)
    (ho : o.op = .call { callee := .builtin .append, args := #[s, x], argTypes := #[57, 57] }) (hs : a.eval s = v) (hx : a.eval x = u)
    (hown : Lst W base v xs) (hu : Lst W b2 u ys) (hl : xs.length ≤ 100000) (hl2 : ys.length ≤ 100000) (hb : base ≤ W.heap.size) :
    ∃ v' w', (execOp a.eval o).run Tryz.prog W = .ok (.value v') w' ∧ Lst w' base v' (xs ++ ys) ∧ Below base W w' := by
  obtain ⟨i0, hi, hz0, hz1, hz2⟩ := info_parts info_int
  have hv := hu.view
  rcases hu.2 with ⟨rfl, hn⟩ | ⟨g, cap, cur, rfl, hg, hh, hc, hc2, hs2, ht⟩
  · have : ys = [] := List.length_eq_zero_iff.1 hn
    subst this
    rw [List.append_nil]
    have hrun := run_append_owned_none (P := Tryz.prog) (w := W) base 57 o.type 3 i0 1 Tryz.underlying57 hi v xs.length _ hown
    refine ⟨v, W, ?_, hown, Below.refl _ _⟩
    simp [execOp, ho, resolve, invoke, builtin, hs, hx, hrun, Result.andThen]
  · have hnews : ∀ j y, (ys.map (Value.int .i64))[j]? = some y → W.cell? ((⟨g, 0, none⟩ : Addr).add j) = some y := by
      intro j y hj
      have hjl : j < ys.length := by
        have := (List.getElem?_eq_some_iff.1 hj).1
        simpa using this
      obtain ⟨ao, c, e, hw⟩ := hv
      simp only [Value.slice.injEq] at e
      obtain ⟨rfl, -, -⟩ := e
      obtain ⟨g', cur', e, hB, hc'⟩ := hw j hjl
      simp only [Option.some.injEq, Addr.mk.injEq] at e
      obtain ⟨rfl, -, -⟩ := e
      have : (⟨g, 0, none⟩ : Addr).add j = ⟨g, j, none⟩ := by
        unfold Addr.add
        split
        · rename_i h0; subst h0; rfl
        · simp
      rw [this, hB.cell j, hc', ← hj]
      simp [hjl]
    have hone : ∀ y ∈ ys.map (Value.int .i64), y.oneCell' = true := by
      intro y hy
      obtain ⟨z, _, rfl⟩ := List.mem_map.1 hy
      rfl
    obtain ⟨v', w', hr, h2, h3, _⟩ := run_append_own (P := Tryz.prog) W base 57 o.type 3 i0 (.int .i64 0) 1 8 Tryz.underlying57 hi hz0 hz1 hz2 rfl (by decide) v xs.length (xs.map (Value.int .i64)) hown ⟨g, 0, none⟩ ys.length cap (ys.map (Value.int .i64)) (by simp) hnews hone (by unfold maxLen; omega) (by omega) hb
    refine ⟨v', w', ?_, ?_, (Below.refl base W).grown h3 hb (fun k hk => (World.ownsRow.lt hown k hk).1)⟩
    · simp [execOp, ho, resolve, invoke, builtin, hs, hx, hr, Result.andThen]
    · unfold Lst
      rw [List.map_append, List.length_append]
      exact h2

end Go.Proofs.YtbedhpooeabehaaGreatDoor
