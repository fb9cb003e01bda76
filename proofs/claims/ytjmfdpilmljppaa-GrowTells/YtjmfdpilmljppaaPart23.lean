/-
  The statement GrowTells, walked. (Written by tools/gen/law_grow_tells.py.)
-/
import Derived.Test.YtjmfdpilmljppaaLawGrow
import Derived.Test.YtjmfdpilmljppaaPart22
import Derived.Test.YtjmfdpilmljppaaPart1
import Derived.Test.YtjmfdpilmljppaaRows
import Derived.ProofKit
import Derived.OpenShut
import Derived.ChangeOld
import Derived.Below
import Derived.Laws.IdiomArrays
import Derived.Test.YtjmfdpilmljppaaPart2
import Derived.ChangeSame
import Derived.ChangeSlices
namespace Go.Proofs.Ytjmfdpilmljppaa
open Go Go.RowKit Go.Shelf Go.Maps

attribute [local go_sem] Oper.semAt_some ext_const
attribute [local go_sem high] eq_box

set_option maxRecDepth 100000 in
set_option maxHeartbeats 16000000 in
theorem growTells_walk (d0 d1 d2 : Int) (b : Bx) (w : World) {v : Value} {ws : List Nat} (hv0 : ArgW w v ws) : Calls Try.prog 4 #[A3 d0 d1 d2, v, B6 b] w fun e W' => e = .returned (.bool true) ∧ Below w.heap.size w W' := by
  have HV : Hid (Wds w v ws) := hv0.1
  obtain ⟨ao, cap, rfl, _⟩ := hv0.1.view
  clear hv0
  obtain ⟨W, hW, hB0, b0, b1⟩ := two_start w #[I d0, I d1, I d2] (C6 b) 26 32
  have HW : Hid ((w.alloc (.cells #[I d0, I d1, I d2] 26)).alloc (.cells (C6 b) 32) = W) := hW
  clear hW
  have HSm : Hid (∀ w, Calls Try.prog 14 #[A3 d0 d1 d2] w fun e W' => e = .returned (.bool (smallG d0 d1 d2)) ∧ Below w.heap.size w W') := fun w => small13_calls d0 d1 d2 w
  have HF : Hid (∀ w1, Below w.heap.size w w1 → Calls Try.prog 12 #[A3 d0 d1 d2, .slice ao ws.length cap] w1 fun e W' => ∃ u, e = .returned (.tuple #[u, I (errF d0 d1 d2 ws)]) ∧ Lx W' w1.heap.size u (freeV d0 d1 d2 ws) ∧ Below w1.heap.size w1 W') := fun w1 h1 => gfree_calls d0 d1 d2 w1 (HV.out.later h1)
  have HG : Hid (∀ w1, Below w.heap.size w w1 → Calls Try.prog 15 #[A3 d0 d1 d2, .slice ao ws.length cap] w1 fun e W' => ∃ u, e = .returned (.tuple #[u, I (errF d0 d1 d2 ws)]) ∧ Lx W' w1.heap.size u (freeV d0 d1 d2 ws) ∧ Below w1.heap.size w1 W') := fun w1 h1 => rgfree_calls d0 d1 d2 w1 (HV.out.later h1)
  have HM : Hid (∀ w1, Below w.heap.size w w1 → Calls Try.prog 16 #[A3 d0 d1 d2, .slice ao ws.length cap] w1 fun e W' => ∃ u, e = .returned (.tuple #[u, I (errF d0 d1 d2 ws)]) ∧ Lx W' w1.heap.size u (mostV d0 d1 d2 ws) ∧ Below w1.heap.size w1 W') := fun w1 h1 => gmost_calls d0 d1 d2 w1 (HV.out.later h1)
  have HN : Hid (∀ w1, Below w.heap.size w w1 → Calls Try.prog 17 #[A3 d0 d1 d2, .slice ao ws.length cap] w1 fun e W' => ∃ u, e = .returned (.tuple #[u, I (errF d0 d1 d2 ws)]) ∧ Lx W' w1.heap.size u (mostV d0 d1 d2 ws) ∧ Below w1.heap.size w1 W') := fun w1 h1 => rgmost_calls d0 d1 d2 w1 (HV.out.later h1)
  have HL : Hid (∀ w1, Below w.heap.size w w1 → Calls Try.prog 8 #[A3 d0 d1 d2, .slice ao ws.length cap] w1 fun e W' => e = .returned (.tuple #[I (topV d0 d1 d2 ws), I (errF d0 d1 d2 ws)]) ∧ Below w1.heap.size w1 W') := fun w1 h1 => glargest_calls d0 d1 d2 w1 (HV.out.later h1)
  have HK : Hid (∀ w1, Below w.heap.size w w1 → Calls Try.prog 18 #[A3 d0 d1 d2, .slice ao ws.length cap] w1 fun e W' => e = .returned (.tuple #[I (topV d0 d1 d2 ws), I (errF d0 d1 d2 ws)]) ∧ Below w1.heap.size w1 W') := fun w1 h1 => rglargest_calls d0 d1 d2 w1 (HV.out.later h1)
  have HP : Hid (∀ w1, Below w.heap.size w w1 → Calls Try.prog 10 #[A3 d0 d1 d2, B6 b, .slice ao ws.length cap] w1 fun e W' => e = .returned (.tuple #[B6 (wholeV d0 d1 d2 b ws), I (errW d0 d1 d2 b ws)]) ∧ Below w1.heap.size w1 W') := fun w1 h1 => ggrown_calls d0 d1 d2 b w1 (HV.out.later h1)
  have HQ : Hid (∀ w1, Below w.heap.size w w1 → Calls Try.prog 20 #[A3 d0 d1 d2, B6 b, .slice ao ws.length cap] w1 fun e W' => e = .returned (.tuple #[B6 (wholeV d0 d1 d2 b ws), I (errW d0 d1 d2 b ws)]) ∧ Below w1.heap.size w1 W') := fun w1 h1 => rggrown_calls d0 d1 d2 b w1 (HV.out.later h1)
  have HSa : Hid (∀ {b1 b2 : Nat} {u v : Value} {xs : List Bx} (w : World), Lx w b1 u xs → Lx w b2 v xs → xs.length ≤ 1000000 → Calls Try.prog 19 #[u, v] w fun e W' => e = .returned (.bool true) ∧ Below w.heap.size w W') := fun {b1 b2 u v xs} w hX hY hl => by
    have := sameX_calls w hX hY hl
    rw [show sameX xs xs = true from sameX_self xs] at this
    exact this
  have HFl : Hid ((freeV d0 d1 d2 ws).length ≤ 1000000 ∧ (mostV d0 d1 d2 ws).length ≤ 1000000) := by
    have h1 := freeV_len (d0 := d0) (d1 := d1) (d2 := d2) (ws := ws)
    refine ⟨by omega, ?_⟩
    rw [mostV_is]
    exact Nat.le_trans (List.length_filter_le _ _) (by omega)
  clear HV
  generalize freeV d0 d1 d2 ws = xs at *
  generalize mostV d0 d1 d2 ws = ms at *
  generalize topV d0 d1 d2 ws = tp at *
  generalize errF d0 d1 d2 ws = er at *
  generalize errW d0 d1 d2 b ws = ew at *
  generalize wholeV d0 d1 d2 b ws = V at *
  generalize ws.length = n at *
  go_enter Try.func4, Try.ntmps4
  by_cases hlen : (100 : Int) < (n : Int)
  · go_wp2_with fail
    rw [HW.out]
    go_wp2
    go_ret
    exact ⟨rfl, hB0⟩
  have hl0 : decide ((100 : Int) < (n : Int)) = false := by simpa using hlen
  obtain ⟨e0, e1, e2, ez⟩ := b0.three (Below.refl _ _)
  go_wp2_with fail
  rw [HW.out]
  refine (HSm.out _).mono ?_
  rintro e w2 ⟨rfl, hB⟩
  have HP0 : Hid (Blk w2 w.heap.size 26 #[I d0, I d1, I d2] ∧ Blk w2 (w.heap.size + 1) 32 (C6 b) ∧ Below w.heap.size w w2) := ⟨b0.later hB, b1.later hB, then_below hB0 hB⟩
  clear hB e0 e1 e2 ez HSm hl0 hlen b0 b1 hB0 HW W
  cases hsm : smallG d0 d1 d2
  · go_wp2
    go_ret
    exact ⟨rfl, HP0.out.2.2⟩
  clear hsm
  obtain ⟨e0, e1, e2, ez⟩ := HP0.out.1.three (Below.refl _ _)
  go_wp2_with fail
  refine (HF.out _ HP0.out.2.2).mono ?_
  rintro e w3 ⟨u, rfl, hL0, hB⟩
  obtain ⟨oF, cF, rfl, hL⟩ := hL0.form
  have HLF : Hid (Lx w3 w2.heap.size (.slice oF xs.length cF) xs) := hL
  replace HP0 : Hid (Blk w3 w.heap.size 26 #[I d0, I d1, I d2] ∧ Blk w3 (w.heap.size + 1) 32 (C6 b) ∧ Below w.heap.size w w3) := ⟨HP0.out.1.later hB, HP0.out.2.1.later hB, then_below HP0.out.2.2 hB⟩
  clear hB e0 e1 e2 ez HF hL hL0
  generalize w2.heap.size = nF at *
  clear w2
  obtain ⟨e0, e1, e2, ez⟩ := HP0.out.1.three (Below.refl _ _)
  go_wp2_with fail
  refine (HG.out _ HP0.out.2.2).mono ?_
  rintro e w4 ⟨u, rfl, hL0, hB⟩
  obtain ⟨oG, cG, rfl, hL⟩ := hL0.form
  have HLG : Hid (Lx w4 w3.heap.size (.slice oG xs.length cG) xs) := hL
  replace HLF : Hid (Lx w4 nF (.slice oF xs.length cF) xs) := HLF.out.later hB
  replace HP0 : Hid (Blk w4 w.heap.size 26 #[I d0, I d1, I d2] ∧ Blk w4 (w.heap.size + 1) 32 (C6 b) ∧ Below w.heap.size w w4) := ⟨HP0.out.1.later hB, HP0.out.2.1.later hB, then_below HP0.out.2.2 hB⟩
  clear hB e0 e1 e2 ez HG hL hL0
  generalize w3.heap.size = nG at *
  clear w3
  obtain ⟨e0, e1, e2, ez⟩ := HP0.out.1.three (Below.refl _ _)
  go_wp2_with fail
  refine (HM.out _ HP0.out.2.2).mono ?_
  rintro e w5 ⟨u, rfl, hL0, hB⟩
  obtain ⟨oM, cM, rfl, hL⟩ := hL0.form
  have HLM : Hid (Lx w5 w4.heap.size (.slice oM ms.length cM) ms) := hL
  replace HLF : Hid (Lx w5 nF (.slice oF xs.length cF) xs) := HLF.out.later hB
  replace HLG : Hid (Lx w5 nG (.slice oG xs.length cG) xs) := HLG.out.later hB
  replace HP0 : Hid (Blk w5 w.heap.size 26 #[I d0, I d1, I d2] ∧ Blk w5 (w.heap.size + 1) 32 (C6 b) ∧ Below w.heap.size w w5) := ⟨HP0.out.1.later hB, HP0.out.2.1.later hB, then_below HP0.out.2.2 hB⟩
  clear hB e0 e1 e2 ez HM hL hL0
  generalize w4.heap.size = nM at *
  clear w4
  obtain ⟨e0, e1, e2, ez⟩ := HP0.out.1.three (Below.refl _ _)
  go_wp2_with fail
  refine (HN.out _ HP0.out.2.2).mono ?_
  rintro e w6 ⟨u, rfl, hL0, hB⟩
  obtain ⟨oN, cN, rfl, hL⟩ := hL0.form
  have HLN : Hid (Lx w6 w5.heap.size (.slice oN ms.length cN) ms) := hL
  replace HLF : Hid (Lx w6 nF (.slice oF xs.length cF) xs) := HLF.out.later hB
  replace HLG : Hid (Lx w6 nG (.slice oG xs.length cG) xs) := HLG.out.later hB
  replace HLM : Hid (Lx w6 nM (.slice oM ms.length cM) ms) := HLM.out.later hB
  replace HP0 : Hid (Blk w6 w.heap.size 26 #[I d0, I d1, I d2] ∧ Blk w6 (w.heap.size + 1) 32 (C6 b) ∧ Below w.heap.size w w6) := ⟨HP0.out.1.later hB, HP0.out.2.1.later hB, then_below HP0.out.2.2 hB⟩
  clear hB e0 e1 e2 ez HN hL hL0
  generalize w5.heap.size = nN at *
  clear w5
  obtain ⟨e0, e1, e2, ez⟩ := HP0.out.1.three (Below.refl _ _)
  go_wp2_with fail
  refine (HL.out _ HP0.out.2.2).mono ?_
  rintro e w7 ⟨rfl, hB⟩
  replace HLF : Hid (Lx w7 nF (.slice oF xs.length cF) xs) := HLF.out.later hB
  replace HLG : Hid (Lx w7 nG (.slice oG xs.length cG) xs) := HLG.out.later hB
  replace HLM : Hid (Lx w7 nM (.slice oM ms.length cM) ms) := HLM.out.later hB
  replace HLN : Hid (Lx w7 nN (.slice oN ms.length cN) ms) := HLN.out.later hB
  replace HP0 : Hid (Blk w7 w.heap.size 26 #[I d0, I d1, I d2] ∧ Blk w7 (w.heap.size + 1) 32 (C6 b) ∧ Below w.heap.size w w7) := ⟨HP0.out.1.later hB, HP0.out.2.1.later hB, then_below HP0.out.2.2 hB⟩
  clear hB e0 e1 e2 ez HL w6
  obtain ⟨e0, e1, e2, ez⟩ := HP0.out.1.three (Below.refl _ _)
  go_wp2_with fail
  refine (HK.out _ HP0.out.2.2).mono ?_
  rintro e w8 ⟨rfl, hB⟩
  replace HLF : Hid (Lx w8 nF (.slice oF xs.length cF) xs) := HLF.out.later hB
  replace HLG : Hid (Lx w8 nG (.slice oG xs.length cG) xs) := HLG.out.later hB
  replace HLM : Hid (Lx w8 nM (.slice oM ms.length cM) ms) := HLM.out.later hB
  replace HLN : Hid (Lx w8 nN (.slice oN ms.length cN) ms) := HLN.out.later hB
  replace HP0 : Hid (Blk w8 w.heap.size 26 #[I d0, I d1, I d2] ∧ Blk w8 (w.heap.size + 1) 32 (C6 b) ∧ Below w.heap.size w w8) := ⟨HP0.out.1.later hB, HP0.out.2.1.later hB, then_below HP0.out.2.2 hB⟩
  clear hB e0 e1 e2 ez HK w7
  go_wp2_with fail
  refine (HSa.out _ HLF.out HLG.out HFl.out.1).mono ?_
  rintro e w9 ⟨rfl, hB⟩
  replace HLF : Hid (Lx w9 nF (.slice oF xs.length cF) xs) := HLF.out.later hB
  replace HLG : Hid (Lx w9 nG (.slice oG xs.length cG) xs) := HLG.out.later hB
  replace HLM : Hid (Lx w9 nM (.slice oM ms.length cM) ms) := HLM.out.later hB
  replace HLN : Hid (Lx w9 nN (.slice oN ms.length cN) ms) := HLN.out.later hB
  replace HP0 : Hid (Blk w9 w.heap.size 26 #[I d0, I d1, I d2] ∧ Blk w9 (w.heap.size + 1) 32 (C6 b) ∧ Below w.heap.size w w9) := ⟨HP0.out.1.later hB, HP0.out.2.1.later hB, then_below HP0.out.2.2 hB⟩
  clear hB w8
  go_wp2_with fail
  refine (HSa.out _ HLM.out HLN.out HFl.out.2).mono ?_
  rintro e w10 ⟨rfl, hB⟩
  replace HLF : Hid (Lx w10 nF (.slice oF xs.length cF) xs) := HLF.out.later hB
  replace HLG : Hid (Lx w10 nG (.slice oG xs.length cG) xs) := HLG.out.later hB
  replace HLM : Hid (Lx w10 nM (.slice oM ms.length cM) ms) := HLM.out.later hB
  replace HLN : Hid (Lx w10 nN (.slice oN ms.length cN) ms) := HLN.out.later hB
  replace HP0 : Hid (Blk w10 w.heap.size 26 #[I d0, I d1, I d2] ∧ Blk w10 (w.heap.size + 1) 32 (C6 b) ∧ Below w.heap.size w w10) := ⟨HP0.out.1.later hB, HP0.out.2.1.later hB, then_below HP0.out.2.2 hB⟩
  clear hB w9
  clear HSa HFl HLF HLG HLM HLN
  by_cases h4 : er = 4
  · subst h4
    go_wp2
    go_ret
    exact ⟨rfl, HP0.out.2.2⟩
  have h40 : decide (er = 4) = false := by simpa using h4
  have h41 : (er == 4) = false := by simpa using h4
  clear h4
  obtain ⟨e0, e1, e2, ez⟩ := HP0.out.1.three (Below.refl _ _)
  obtain ⟨g0, g1, g2, g3, g4, g5, gz⟩ := HP0.out.2.1.sixX (Below.refl _ _)
  go_wp2_with fail
  refine (HP.out _ HP0.out.2.2).mono ?_
  rintro e w11 ⟨rfl, hB⟩
  replace HP0 : Hid (Blk w11 w.heap.size 26 #[I d0, I d1, I d2] ∧ Blk w11 (w.heap.size + 1) 32 (C6 b) ∧ Below w.heap.size w w11) := ⟨HP0.out.1.later hB, HP0.out.2.1.later hB, then_below HP0.out.2.2 hB⟩
  clear hB e0 e1 e2 ez g0 g1 g2 g3 g4 g5 gz HP w10
  obtain ⟨e0, e1, e2, ez⟩ := HP0.out.1.three (Below.refl _ _)
  obtain ⟨g0, g1, g2, g3, g4, g5, gz⟩ := HP0.out.2.1.sixX (Below.refl _ _)
  go_wp2_with fail
  have hBa : Below w11.heap.size w11 (w11.alloc (.cells (C6 V) 32)) := (Below.refl _ w11).alloc (Nat.le_refl _) _
  have kn : Blk (w11.alloc (.cells (C6 V) 32)) w11.heap.size 32 (C6 V) := Blk.new _ _ _
  have hT := then_below HP0.out.2.2 hBa
  refine (HQ.out _ hT).mono ?_
  rintro e w12 ⟨rfl, hB⟩
  have HE : Hid (Below w.heap.size w w12) := then_below hT hB
  obtain ⟨c0, c1, c2, c3, c4, c5, cz⟩ := kn.sixX hB
  have hs : sameBx ⟨V.x, V.y, V.z, V.a, V.b, V.c⟩ ⟨V.x, V.y, V.z, V.a, V.b, V.c⟩ = true := sameBx_self _
  clear hB hBa kn hT HP0 e0 e1 e2 ez g0 g1 g2 g3 g4 g5 gz HQ
  generalize w11.heap.size = pp at *
  go_wp2
  go_ret
  exact ⟨rfl, then_alloc HE.out _⟩

end Go.Proofs.Ytjmfdpilmljppaa

/-
  How the arguments of this seat's statements are opened: whole numbers, and rows of three of them.
-/
namespace Go.Proofs.Ytjmfdpilmljppaa
open Go.ChangeShapes Go.WideShapes Go.ChangeAt Go.RowKit

theorem own : ownKnob Try.prog.godebug = none := by kernel_rfl
theorem laidOut : laidOutB Try.prog = true := by kernel_rfl

theorem list3 {α : Type} (l : List α) (h : (⟨l⟩ : Array α).size = 3) : ∃ a b c, l = [a, b, c] := by
  match l, h with
  | [a, b, c], _ => exact ⟨a, b, c, rfl⟩

/-- A row of three whole numbers, by value. -/
theorem open_arr3 {P : Program} {w : World} {H : Type} {enc : TypeId × Value → H} {r : Reach} {b0 base : Nat} {spare : Nat → Bool} {held : Bool} {t e : TypeId} {v : Value} {d : DataW H} {p : List MemPlace}
    (ht : P.underlying t = some (.array 3 e)) (he : P.underlying e = some (.int .i64)) (hce : P.cellsOf e = 1) (hct : P.cellsOf t = 3)
    (hv : Value.okWide P w r b0 t v) (h : DataW.Trod enc P w base spare held t v d p) :
    ∃ a b c : Int, v = A3 a b c ∧ (Lit.int .i64 a).wf = true ∧ (Lit.int .i64 b).wf = true ∧ (Lit.int .i64 c).wf = true := by
  obtain ⟨cs, rfl, hsz, _⟩ : ∃ cs, v = .agg cs ∧ cs.size = P.cellsOf t ∧ Row.okWide P w r b0 t cs := by
    simpa [Value.okWide, ht] using hv
  rw [hct] at hsz
  obtain ⟨l⟩ := cs
  obtain ⟨c0, c1, c2, rfl⟩ := list3 l hsz
  obtain ⟨fuel, hf⟩ := h
  obtain ⟨y0, y1, y2, m, hx, hy0, hy1, hy2⟩ := trod_array3 ht hce hf
  obtain ⟨x0, e0, rfl, w0⟩ := DataW.trod_int he hy0
  obtain ⟨x1, e1, rfl, w1⟩ := DataW.trod_int he hy1
  obtain ⟨x2, e2, rfl, w2⟩ := DataW.trod_int he hy2
  simp at e0 e1 e2
  subst e0 e1 e2
  exact ⟨x0, x1, x2, rfl, w0, w1, w2⟩

theorem open_num {P : Program} {w : World} {H : Type} {enc : TypeId × Value → H} {r : Reach} {b0 base : Nat} {spare : Nat → Bool} {held : Bool} {t : TypeId} {k : IntKind} {v : Value} {d : DataW H} {p : List MemPlace}
    (ht : P.underlying t = some (.int k)) (hv : Value.okWide P w r b0 t v) (h : DataW.Trod enc P w base spare held t v d p) :
    ∃ a : Int, v = .int k a ∧ (Lit.int k a).wf = true := by
  obtain ⟨x, rfl, rfl, rfl, wx⟩ := open_int ht hv h
  exact ⟨x, rfl, wx⟩

theorem trod_lt' {H : Type} {enc : TypeId × Value → H} {P : Program} {W : World} {t : TypeId} {v : Value} {d : DataW H} {ps : List MemPlace} {sp : Nat → Bool} (h : DataW.Trod enc P W 0 sp true t v d ps) : ∀ x ∈ ps, x.block < W.heap.size := by
  obtain ⟨m, hm⟩ := h; exact DataW.trod_lt m _ _ _ hm

end Go.Proofs.Ytjmfdpilmljppaa

/-
  How a box among a statement's arguments is opened: six whole numbers.
-/
namespace Go.Proofs.Ytjmfdpilmljppaa
open Go.ChangeShapes Go.WideShapes Go.ChangeAt Go.RowKit

theorem list6 {α : Type} (l : List α) (h : (⟨l⟩ : Array α).size = 6) : ∃ a b c d e f, l = [a, b, c, d, e, f] := by
  match l, h with
  | [a, b, c, d, e, f], _ => exact ⟨a, b, c, d, e, f, rfl⟩

set_option maxRecDepth 100000 in
theorem open_box {w : World} {H : Type} {enc : TypeId × Value → H} {r : Reach} {b0 base : Nat} {spare : Nat → Bool} {held : Bool} {v : Value} {d : DataW H} {p : List MemPlace}
    (hv : Value.okWide Try.prog w r b0 32 v) (h : DataW.Trod enc Try.prog w base spare held 32 v d p) : ∃ b : Bx, v = B6 b := by
  obtain ⟨f0, f1, hu, t0, o0, t1, o1⟩ : ∃ f0 f1, Try.prog.underlying 32 = some (.struct #[f0, f1]) ∧ f0.type = 25 ∧ f0.offset = 0 ∧ f1.type = 25 ∧ f1.offset = 3 := ⟨_, _, rfl, rfl, rfl, rfl, rfl⟩
  obtain ⟨cs, rfl, hsz, _⟩ : ∃ cs, v = .agg cs ∧ cs.size = Try.prog.cellsOf 32 ∧ Row.okWide Try.prog w r b0 32 cs := by
    simpa [Value.okWide, hu] using hv
  have hct : Try.prog.cellsOf 32 = 6 := by kernel_rfl
  rw [hct] at hsz
  obtain ⟨l⟩ := cs
  obtain ⟨c0, c1, c2, c3, c4, c5, rfl⟩ := list6 l hsz
  obtain ⟨fuel, hf⟩ := h
  obtain ⟨x, y, n, _, _, h0, h1⟩ := trod_struct2 hu hf
  have hc3 : Try.prog.cellsOf 25 = 3 := by kernel_rfl
  have hc1 : Try.prog.cellsOf 3 = 1 := by kernel_rfl
  rw [t0, o0, hc3] at h0
  rw [t1, o1, hc3] at h1
  have h0 : DataW.trod enc Try.prog w base spare held n 25 [c0, c1, c2] = some x := h0
  have h1 : DataW.trod enc Try.prog w base spare held n 25 [c3, c4, c5] = some y := h1
  obtain ⟨_, _, _, m, _, g0, g1, g2⟩ := trod_array3 Try.underlying25 hc1 h0
  obtain ⟨_, _, _, m', _, g3, g4, g5⟩ := trod_array3 Try.underlying25 hc1 h1
  obtain ⟨x0, e0, _, _⟩ := DataW.trod_int Try.underlying3 g0
  obtain ⟨x1, e1, _, _⟩ := DataW.trod_int Try.underlying3 g1
  obtain ⟨x2, e2, _, _⟩ := DataW.trod_int Try.underlying3 g2
  obtain ⟨x3, e3, _, _⟩ := DataW.trod_int Try.underlying3 g3
  obtain ⟨x4, e4, _, _⟩ := DataW.trod_int Try.underlying3 g4
  obtain ⟨x5, e5, _, _⟩ := DataW.trod_int Try.underlying3 g5
  simp at e0 e1 e2 e3 e4 e5
  subst e0 e1 e2 e3 e4 e5
  exact ⟨⟨x0, x1, x2, x3, x4, x5⟩, rfl⟩

end Go.Proofs.Ytjmfdpilmljppaa

/-
  How a set, and a list of whole numbers, among a statement's arguments is opened.
-/
namespace Go.Proofs.Ytjmfdpilmljppaa
open Go Go.ChangeShapes Go.WideShapes Go.ChangeAt Go.RowKit

theorem spot_none {w : World} {a : Addr} {v : Value} (h : w.cell? a = some v) : a.spot = none := by
  unfold World.cell? at h
  split at h
  · split at h
    · cases h
    · rename_i hs
      cases hq : a.spot
      · rfl
      · rw [hq] at hs; exact absurd rfl hs
  · cases h
theorem block_lt {w : World} {a : Addr} {v : Value} (h : w.cell? a = some v) : a.block < w.heap.size := by
  unfold World.cell? at h
  split at h
  · rename_i hs
    exact (Array.getElem?_eq_some_iff.1 hs).1
  · cases h

set_option maxRecDepth 100000 in
/-- A slice of numbers of one kind, as it came in. -/
theorem open_row_of {P : Program} {w : World} {H : Type} {enc : TypeId × Value → H} {r : Reach} {b0 base : Nat} {spare : Nat → Bool} {held : Bool} {t e : TypeId} {k : IntKind} {v : Value} {d : DataW H} {p : List MemPlace}
    (ht : P.underlying t = some (.slice e)) (he : P.underlying e = some (.int k)) (hc : P.cellsOf e = 1)
    (hv : Value.okWide P w r b0 t v) (h : DataW.Trod enc P w base spare held t v d p) :
    ∃ zs : List Int, (∀ z ∈ zs, (Lit.int k z).wf = true) ∧ Sl w v (zs.map (Value.int k)) ∧ (v = .slice none 0 0 ∧ zs = [] ∨ ∃ ad cap, v = .slice (some ad) zs.length cap) := by
  obtain ⟨a, len, cap, rfl⟩ := okWide_slice ht hv
  obtain ⟨fuel, hf⟩ := h
  rcases open_ints ht he hc hf with ⟨hcs, -⟩ | ⟨a0, len0, cap0, zs, hcs, _, hl, _, hz, _, hcell, hwf⟩
  · have e0 : Value.slice a len cap = .slice none 0 0 := by
      have : [Value.slice a len cap] = [.slice none 0 0] := hcs
      exact List.head_eq_of_cons_eq this
    rw [e0]
    exact ⟨[], fun _ h => (by cases h), Sl.nil w, .inl ⟨rfl, rfl⟩⟩
  · have e0 : Value.slice a len cap = .slice (some a0) len0 cap0 := by
      have : [Value.slice a len cap] = [.slice (some a0) len0 cap0] := hcs
      exact List.head_eq_of_cons_eq this
    rw [e0]
    have hlz : len0 ≤ zs.length := by rw [hz]; split <;> omega
    have hlt : (zs.take len0).length = len0 := by simp [hlz]
    refine ⟨zs.take len0, fun z hz' => hwf z (List.mem_of_mem_take hz'), ⟨some a0, cap0, by simp [hlz], fun i hi => ?_⟩, .inr ⟨a0, cap0, by rw [hlt]⟩⟩
    rw [List.length_map, hlt] at hi
    have hi2 : i < zs.length := by omega
    have c0 := hcell i hi2
    have cc := hcell 0 (by omega)
    obtain ⟨g, off, sp⟩ := a0
    have hs : sp = none := by
      have := spot_none cc
      simpa [Addr.add] using this
    subst hs
    have ea : (⟨g, off, none⟩ : Addr).add i = ⟨g, off + i, none⟩ := by
      unfold Addr.add
      split
      · rename_i h0; subst h0; rfl
      · rfl
    rw [ea] at c0
    exact ⟨g, off, rfl, block_lt c0, by rw [c0]; simp [hi, hi2]⟩

theorem word_of {z : Int} (h : (Lit.int .u64 z).wf = true) : 0 ≤ z ∧ z < 18446744073709551616 := by
  unfold Lit.wf at h
  simp [IntKind.min, IntKind.max, IntKind.signed, IntKind.bits] at h
  omega

set_option maxRecDepth 100000 in
theorem open_set {w : World} {H : Type} {enc : TypeId × Value → H} {r : Reach} {b0 base : Nat} {spare : Nat → Bool} {held : Bool} {v : Value} {d : DataW H} {p : List MemPlace}
    (hv : Value.okWide Try.prog w r b0 30 v) (h : DataW.Trod enc Try.prog w base spare held 30 v d p) : ∃ ws : List Nat, ArgW w v ws := by
  obtain ⟨zs, hw, hs, hc⟩ := open_row_of Try.underlying30 Try.underlying28 (by kernel_rfl) hv h
  have e : (zs.map Int.toNat).map U = zs.map (Value.int .u64) := by
    rw [List.map_map]
    apply List.map_congr_left
    intro z hz
    have := word_of (hw z hz)
    show Value.int .u64 ((z.toNat : Nat) : Int) = _
    rw [Int.toNat_of_nonneg this.1]
  refine ⟨zs.map Int.toNat, ⟨fun x hx => ?_, by rw [e]; exact hs⟩, ?_⟩
  · obtain ⟨z, hz, rfl⟩ := List.mem_map.1 hx
    have := word_of (hw z hz)
    omega
  · rcases hc with ⟨rfl, _⟩ | ⟨ad, cap, rfl⟩
    · exact .inl rfl
    · exact .inr ⟨ad, cap, by simp⟩

set_option maxRecDepth 100000 in
theorem open_list {w : World} {H : Type} {enc : TypeId × Value → H} {r : Reach} {b0 base : Nat} {spare : Nat → Bool} {held : Bool} {v : Value} {d : DataW H} {p : List MemPlace}
    (hv : Value.okWide Try.prog w r b0 52 v) (h : DataW.Trod enc Try.prog w base spare held 52 v d p) : ∃ xs : List Int, ArgI w v xs ∧ ∀ x ∈ xs, (Lit.int .i64 x).wf = true := by
  obtain ⟨zs, hw, hs, hc⟩ := open_row_of Try.underlying52 Try.underlying3 (by kernel_rfl) hv h
  refine ⟨zs, ⟨hs, ?_⟩, hw⟩
  rcases hc with ⟨rfl, _⟩ | h
  · exact .inl rfl
  · exact .inr h

end Go.Proofs.Ytjmfdpilmljppaa
