/-
  The statement GrowMost, walked. (Written by tools/gen/law_grow_most.py.)
-/
import Derived.Test.YtjmfdpilmljppaaLawGrow
import Derived.Test.YtjmfdpilmljppaaPart17
import Derived.Test.YtjmfdpilmljppaaPart1
import Derived.Test.YtjmfdpilmljppaaRows
import Derived.ProofKit
import Derived.OpenShut
import Derived.ChangeOld
import Derived.Below
import Derived.Laws.IdiomArrays
import Derived.Test.YtjmfdpilmljppaaPart2
import Derived.ChangeSame
import Derived.ChangeSlices
namespace Go.Proofs.Ytjmfdpilmljppaa
open Go Go.RowKit Go.Shelf Go.Maps

attribute [local go_sem] Oper.semAt_some ext_const
attribute [local go_sem high] eq_box

/-- What the walk keeps. -/
structure MoPv (w : World) (d0 d1 d2 : Int) (b : Bx) (n1 n2 : Nat) (vx vm : Value) (xs ms : List Bx) (V : World) : Prop where
  below : Below w.heap.size w V
  d : Blk V w.heap.size 26 #[I d0, I d1, I d2]
  b : Blk V (w.heap.size + 1) 32 (C6 b)
  x : Lx V n1 vx xs
  m : Lx V n2 vm ms
theorem MoPv.later {w : World} {d0 d1 d2 : Int} {b : Bx} {n1 n2 : Nat} {vx vm : Value} {xs ms : List Bx} {V V' : World} (h : MoPv w d0 d1 d2 b n1 n2 vx vm xs ms V) (hb : Below V.heap.size V V') : MoPv w d0 d1 d2 b n1 n2 vx vm xs ms V' :=
  ⟨then_below h.below hb, h.d.later hb, h.b.later hb, h.x.later hb, h.m.later hb⟩
theorem any_app (q : Bx → Bool) (l : List Bx) (c : Bx) : (l ++ [c]).any q = (l.any q || q c) := by simp
theorem take_next {l : List Bx} {k : Nat} (h : k < l.length) : l.take (k + 1) = l.take k ++ [l.getD k zX] := by
  rw [List.take_succ_eq_append_getElem h]
  simp [h]
theorem getX_mem {l : List Bx} {k : Nat} (h : k < l.length) : l.getD k zX ∈ l := by simp [h]
theorem errF_two {d0 d1 d2 : Int} {ws : List Nat} (h : errF d0 d1 d2 ws ≠ 0) : freeV d0 d1 d2 ws = [] ∧ mostV d0 d1 d2 ws = [] := by
  unfold freeV mostV
  rw [if_neg h, if_neg h]
  exact ⟨rfl, rfl⟩

set_option maxRecDepth 100000 in
set_option maxHeartbeats 16000000 in
theorem growMost_walk (d0 d1 d2 : Int) (b : Bx) (w : World) {v : Value} {ws : List Nat} (hv0 : ArgW w v ws) : Calls Try.prog 5 #[A3 d0 d1 d2, v, B6 b] w fun e W' => e = .returned (.bool true) ∧ Below w.heap.size w W' := by
  have mixed : Try.prog.follows .mixedOrders = true := by kernel_rfl
  have HV : Hid (Wds w v ws) := hv0.1
  obtain ⟨ao, cap, rfl, _⟩ := hv0.1.view
  clear hv0
  obtain ⟨W, hW, hB0, b0, b1⟩ := two_start w #[I d0, I d1, I d2] (C6 b) 26 32
  have HW : Hid ((w.alloc (.cells #[I d0, I d1, I d2] 26)).alloc (.cells (C6 b) 32) = W) := hW
  clear hW
  have HSm : Hid (∀ w, Calls Try.prog 14 #[A3 d0 d1 d2] w fun e W' => e = .returned (.bool (smallG d0 d1 d2)) ∧ Below w.heap.size w W') := fun w => small13_calls d0 d1 d2 w
  have HFr : Hid (∀ w1, Below w.heap.size w w1 → Calls Try.prog 12 #[A3 d0 d1 d2, .slice ao ws.length cap] w1 fun e W' => ∃ u, e = .returned (.tuple #[u, I (errF d0 d1 d2 ws)]) ∧ Lx W' w1.heap.size u (freeV d0 d1 d2 ws) ∧ Below w1.heap.size w1 W') := fun w1 h1 => gfree_calls d0 d1 d2 w1 (HV.out.later h1)
  have HMo : Hid (∀ w1, Below w.heap.size w w1 → Calls Try.prog 16 #[A3 d0 d1 d2, .slice ao ws.length cap] w1 fun e W' => ∃ u, e = .returned (.tuple #[u, I (errF d0 d1 d2 ws)]) ∧ Lx W' w1.heap.size u (mostV d0 d1 d2 ws) ∧ Below w1.heap.size w1 W') := fun w1 h1 => gmost_calls d0 d1 d2 w1 (HV.out.later h1)
  have HGr : Hid (∀ w1, Below w.heap.size w w1 → Calls Try.prog 10 #[A3 d0 d1 d2, B6 b, .slice ao ws.length cap] w1 fun e W' => e = .returned (.tuple #[B6 (wholeV d0 d1 d2 b ws), I (errW d0 d1 d2 b ws)]) ∧ Below w1.heap.size w1 W') := fun w1 h1 => ggrown_calls d0 d1 d2 b w1 (HV.out.later h1)
  go_enter Try.func5, Try.ntmps5
  go_wp2_with fail
  rw [HW.out]
  refine (alive13_calls _).mono ?_
  rintro e w1 ⟨rfl, hB⟩
  replace b0 := b0.later hB
  replace b1 := b1.later hB
  have hT := then_below hB0 hB
  clear hB hB0 HW
  by_cases hlen : (100 : Int) < (ws.length : Int)
  · go_wp2
    go_ret
    exact ⟨rfl, hT⟩
  have hl0 : decide ((100 : Int) < (ws.length : Int)) = false := by simpa using hlen
  obtain ⟨e0, e1, e2, ez⟩ := b0.three (Below.refl _ _)
  go_wp2_with fail
  refine (HSm.out _).mono ?_
  rintro e w2 ⟨rfl, hB⟩
  replace b0 := b0.later hB
  replace b1 := b1.later hB
  replace hT := then_below hT hB
  clear hB e0 e1 e2 ez HSm hl0
  cases hsm : smallG d0 d1 d2
  · go_wp2
    go_ret
    exact ⟨rfl, hT⟩
  clear hsm
  obtain ⟨e0, e1, e2, ez⟩ := b0.three (Below.refl _ _)
  go_wp2_with fail
  refine (HFr.out _ hT).mono ?_
  rintro e w3 ⟨u, rfl, hL, hB⟩
  replace b0 := b0.later hB
  replace b1 := b1.later hB
  replace hT := then_below hT hB
  clear hB e0 e1 e2 ez HFr
  obtain ⟨lo, lc, rfl, hL⟩ := hL.form
  obtain ⟨e0, e1, e2, ez⟩ := b0.three (Below.refl _ _)
  go_wp2_with fail
  refine (HMo.out _ hT).mono ?_
  rintro e w4 ⟨u, rfl, hM, hB⟩
  obtain ⟨mo, mc, rfl, hM⟩ := hM.form
  have pv : MoPv w d0 d1 d2 b w2.heap.size w3.heap.size (.slice lo (freeV d0 d1 d2 ws).length lc) (.slice mo (mostV d0 d1 d2 ws).length mc) (freeV d0 d1 d2 ws) (mostV d0 d1 d2 ws) w4 := ⟨then_below hT hB, b0.later hB, b1.later hB, hL.later hB, hM⟩
  clear hB e0 e1 e2 ez HMo hT b0 b1 hL hM
  by_cases he : errF d0 d1 d2 ws = 0
  · obtain ⟨hd, hs, hn64⟩ := errF_may he
    have hfv : freeV d0 d1 d2 ws = freeL d0 d1 d2 ws := by simp [freeV, he]
    have hmv : mostV d0 d1 d2 ws = mostL d0 d1 d2 (freeL d0 d1 d2 ws) := by simp [mostV, he]
    have hxl : (freeL d0 d1 d2 ws).length ≤ 262144 := by
      have := freeV_len (d0 := d0) (d1 := d1) (d2 := d2) (ws := ws)
      rwa [hfv] at this
    have hml : (mostL d0 d1 d2 (freeL d0 d1 d2 ws)).length ≤ 262144 := Nat.le_trans (List.length_filter_le _ _) hxl
    have HOk : Hid (MostOk d0 d1 d2 (freeL d0 d1 d2 ws) (mostL d0 d1 d2 (freeL d0 d1 d2 ws))) := most_ok hd ws
    have HWh : Hid (errW d0 d1 d2 b ws = 0 → mayB d0 d1 d2 b ∧ wholeV d0 d1 d2 b ws ∈ mostL d0 d1 d2 (freeL d0 d1 d2 ws) ∧ mayB d0 d1 d2 (wholeV d0 d1 d2 b ws) ∧ inB d0 d1 d2 b (wholeV d0 d1 d2 b ws) = true) := fun h => whole_ok hd h
    have HIn : Hid (∀ (a c : Bx) (w1 : World), mayB d0 d1 d2 a → mayB d0 d1 d2 c → Calls Try.prog 21 #[A3 d0 d1 d2, B6 a, B6 c] w1 fun e W' => e = .returned (.bool (inB d0 d1 d2 a c)) ∧ Below w1.heap.size w1 W') := fun a c w1 ha hc => lies_calls w1 hd ha hc
    rw [hfv, hmv] at pv
    rw [he, hfv, hmv]
    clear he hfv hmv hd hs hn64
    generalize mostL d0 d1 d2 (freeL d0 d1 d2 ws) = ms at *
    generalize freeL d0 d1 d2 ws = xs at *
    generalize wholeV d0 d1 d2 b ws = g at *
    generalize errW d0 d1 d2 b ws = er at *
    generalize w2.heap.size = n1 at *
    generalize w3.heap.size = n2 at *
    go_wp2
    go_loopw [12] (fun i wr => ∃ (k : Nat), k ≤ xs.length ∧ i = .int .i64 k ∧ MoPv w d0 d1 d2 b n1 n2 (.slice lo xs.length lc) (.slice mo ms.length mc) xs ms wr) (fun i _ => xs.length - (RowKit.intOf i).toNat)
    case atStart => exact ⟨0, by omega, rfl, pv⟩
    case round =>
      clear pv
      obtain ⟨i, hi, rfl, pv⟩ := hrel
      by_cases hlt : (i : Int) < (xs.length : Int)
      · have hi2 : i < xs.length := by omega
        have HAny : Hid ((ms.any fun c => inB d0 d1 d2 (xs.getD i zX) c) = true) := HOk.out.lies _ (getX_mem hi2)
        go_wp2
        go_loopw [13, 14] (fun x j wr2 => ∃ (k : Nat) (t : Bool), k ≤ ms.length ∧ j = .int .i64 k ∧ x = .bool t ∧ Hid (((ms.take k).any fun c => inB d0 d1 d2 (xs.getD i zX) c) = t) ∧ MoPv w d0 d1 d2 b n1 n2 (.slice lo xs.length lc) (.slice mo ms.length mc) xs ms wr2) (fun _ j _ => ms.length - (RowKit.intOf j).toNat)
        case atStart => exact ⟨0, false, by omega, rfl, rfl, rfl, pv⟩
        case round =>
          clear pv
          rename World => wr2
          obtain ⟨k, t, hk, rfl, rfl, Ht, pv⟩ := hrel
          by_cases hltk : (k : Int) < (ms.length : Int)
          · have hk2 : k < ms.length := by omega
            obtain ⟨gx, rfl, hatx⟩ := pv.x.at hi2
            obtain ⟨gm, rfl, hatm⟩ := pv.m.at hk2
            have hx := HOk.out.mx _ (getX_mem hi2)
            have hc := HOk.out.mm _ (getX_mem hk2)
            have HT1 : Hid (((ms.take (k + 1)).any fun c => inB d0 d1 d2 (xs.getD i zX) c) = (t || inB d0 d1 d2 (xs.getD i zX) (ms.getD k zX))) := by
              show _ = _
              rw [take_next hk2, any_app, Ht.out]
            have HPv : Hid (MoPv w d0 d1 d2 b n1 n2 (.slice (some ⟨gx, 0, none⟩) xs.length lc) (.slice (some ⟨gm, 0, none⟩) ms.length mc) xs ms wr2) := pv
            have HIx : Hid (∀ w1, Calls Try.prog 21 #[A3 d0 d1 d2, B6 (xs.getD i zX), B6 (ms.getD k zX)] w1 fun e W' => e = .returned (.bool (inB d0 d1 d2 (xs.getD i zX) (ms.getD k zX))) ∧ Below w1.heap.size w1 W') := fun w1 => HIn.out _ _ w1 hx hc
            generalize inB d0 d1 d2 (xs.getD i zX) (ms.getD k zX) = is at *
            generalize xs.getD i zX = bx at *
            generalize ms.getD k zX = bc at *
            obtain ⟨x0, x1, x2, x3, x4, x5⟩ := hatx.ext
            obtain ⟨y0, y1, y2, y3, y4, y5⟩ := hatm.ext
            have z0 := Ext.cell pv.d 0
            have z1 := Ext.cell pv.d 1
            have z2 := Ext.cell pv.d 2
            simp at z0 z1 z2
            clear hatx hatm pv Ht hx hc
            cases t
            · go_wp2_with fail
              refine wp_region_look mixed (by kernel_rfl) ?_
              repeat (go_big_quiet_step ((go_at_call 21; exact calls_ext (HIx.out _))))
              refine wpQuiet_nil ?_
              intro X
              have HP2 := HPv.out.later X.le
              clear x0 x1 x2 x3 x4 x5 y0 y1 y2 y3 y4 y5 z0 z1 z2 HPv HIx
              generalize X.wd = w6 at *
              clear X
              have HP3 : Hid (MoPv w d0 d1 d2 b n1 n2 (.slice (some ⟨gx, 0, none⟩) xs.length lc) (.slice (some ⟨gm, 0, none⟩) ms.length mc) xs ms w6) := HP2
              clear HP2
              go_wp2
              exact ⟨⟨k + 1, is, by omega, by go_num, by first | rfl | simp, HT1.out, HP3.out⟩, by simp [RowKit.intOf]; omega⟩
            · go_wp2_with fail
              refine wp_region_look mixed (by kernel_rfl) ?_
              repeat (go_big_quiet_step (fail))
              refine wpQuiet_nil ?_
              intro X
              have HP2 := HPv.out.later X.le
              clear x0 x1 x2 x3 x4 x5 y0 y1 y2 y3 y4 y5 z0 z1 z2 HPv HIx
              generalize X.wd = w6 at *
              clear X
              have HP3 : Hid (MoPv w d0 d1 d2 b n1 n2 (.slice (some ⟨gx, 0, none⟩) xs.length lc) (.slice (some ⟨gm, 0, none⟩) ms.length mc) xs ms w6) := HP2
              clear HP2
              go_wp2
              exact ⟨⟨k + 1, true, by omega, by go_num, by first | rfl | simp, HT1.out, HP3.out⟩, by simp [RowKit.intOf]; omega⟩
          · obtain rfl : k = ms.length := by omega
            have Htt : t = true := by
              have := Ht.out
              rw [List.take_length] at this
              exact this.symm.trans HAny.out
            subst Htt
            have HP3 : Hid (MoPv w d0 d1 d2 b n1 n2 (.slice lo xs.length lc) (.slice mo ms.length mc) xs ms wr2) := pv
            clear Ht pv
            go_wp2
            exact ⟨⟨i + 1, by omega, by go_num, HP3.out⟩, by simp [RowKit.intOf]; omega⟩
      · obtain rfl : i = xs.length := by omega
        clear hlt hi
        have HP3 : Hid (MoPv w d0 d1 d2 b n1 n2 (.slice lo xs.length lc) (.slice mo ms.length mc) xs ms wr) := pv
        clear pv
        go_wp2
        go_loopw [15] (fun i wr => ∃ (k : Nat), k ≤ ms.length ∧ i = .int .i64 k ∧ MoPv w d0 d1 d2 b n1 n2 (.slice lo xs.length lc) (.slice mo ms.length mc) xs ms wr) (fun i _ => ms.length - (RowKit.intOf i).toNat)
        case atStart => exact ⟨0, by omega, rfl, HP3.out⟩
        case round =>
          clear HP3
          rename World => wr
          obtain ⟨i, hi, rfl, pv⟩ := hrel
          by_cases hlt : (i : Int) < (ms.length : Int)
          · have hi2 : i < ms.length := by omega
            have HOwn : Hid (memX xs (ms.getD i zX) = true) := HOk.out.own _ (getX_mem hi2)
            go_wp2
            go_loopw [16, 17] (fun x j wr2 => ∃ (k : Nat) (t : Bool), k ≤ xs.length ∧ j = .int .i64 k ∧ x = .bool t ∧ Hid (memX (xs.take k) (ms.getD i zX) = t) ∧ MoPv w d0 d1 d2 b n1 n2 (.slice lo xs.length lc) (.slice mo ms.length mc) xs ms wr2) (fun _ j _ => xs.length - (RowKit.intOf j).toNat)
            case atStart => exact ⟨0, false, by omega, rfl, rfl, rfl, pv⟩
            case round =>
              clear pv
              rename World => wr2
              obtain ⟨k, t, hk, rfl, rfl, Ht, pv⟩ := hrel
              by_cases hltk : (k : Int) < (xs.length : Int)
              · have hk2 : k < xs.length := by omega
                obtain ⟨gx, rfl, hatx⟩ := pv.x.at hk2
                obtain ⟨gm, rfl, hatm⟩ := pv.m.at hi2
                have HT1 : Hid (memX (xs.take (k + 1)) (ms.getD i zX) = (t || sameBx (xs.getD k zX) (ms.getD i zX))) := by
                  show _ = _
                  rw [take_next hk2, memX_app, Ht.out]
                have HPv : Hid (MoPv w d0 d1 d2 b n1 n2 (.slice (some ⟨gx, 0, none⟩) xs.length lc) (.slice (some ⟨gm, 0, none⟩) ms.length mc) xs ms wr2) := pv
                generalize xs.getD k zX = bx at *
                generalize ms.getD i zX = bm at *
                obtain ⟨s, hs⟩ : ∃ s, sameBx ⟨bx.x, bx.y, bx.z, bx.a, bx.b, bx.c⟩ ⟨bm.x, bm.y, bm.z, bm.a, bm.b, bm.c⟩ = s := ⟨_, rfl⟩
                have HS : Hid (sameBx bx bm = s) := hs
                obtain ⟨x0, x1, x2, x3, x4, x5⟩ := hatx.ext
                obtain ⟨y0, y1, y2, y3, y4, y5⟩ := hatm.ext
                clear hatx hatm pv Ht
                cases t
                · go_wp2_with fail
                  refine wp_region_look mixed (by kernel_rfl) ?_
                  repeat (go_big_quiet_step (fail))
                  refine wpQuiet_nil ?_
                  intro X
                  have HP2 := HPv.out.later X.le
                  clear x0 x1 x2 x3 x4 x5 y0 y1 y2 y3 y4 y5 HPv hs
                  generalize X.wd = w6 at *
                  clear X
                  have HP3 : Hid (MoPv w d0 d1 d2 b n1 n2 (.slice (some ⟨gx, 0, none⟩) xs.length lc) (.slice (some ⟨gm, 0, none⟩) ms.length mc) xs ms w6) := HP2
                  clear HP2
                  go_wp2
                  exact ⟨⟨k + 1, s, by omega, by go_num, by first | rfl | simp, by show _ = _; rw [HT1.out, Bool.false_or]; exact HS.out, HP3.out⟩, by simp [RowKit.intOf]; omega⟩
                · go_wp2_with fail
                  refine wp_region_look mixed (by kernel_rfl) ?_
                  repeat (go_big_quiet_step (fail))
                  refine wpQuiet_nil ?_
                  intro X
                  have HP2 := HPv.out.later X.le
                  clear x0 x1 x2 x3 x4 x5 y0 y1 y2 y3 y4 y5 HPv hs
                  generalize X.wd = w6 at *
                  clear X
                  have HP3 : Hid (MoPv w d0 d1 d2 b n1 n2 (.slice (some ⟨gx, 0, none⟩) xs.length lc) (.slice (some ⟨gm, 0, none⟩) ms.length mc) xs ms w6) := HP2
                  clear HP2
                  go_wp2
                  exact ⟨⟨k + 1, true, by omega, by go_num, by first | rfl | simp, by show _ = _; rw [HT1.out, Bool.true_or], HP3.out⟩, by simp [RowKit.intOf]; omega⟩
              · obtain rfl : k = xs.length := by omega
                have Htt : t = true := by
                  have := Ht.out
                  rw [List.take_length] at this
                  exact this.symm.trans HOwn.out
                subst Htt
                have HP3 : Hid (MoPv w d0 d1 d2 b n1 n2 (.slice lo xs.length lc) (.slice mo ms.length mc) xs ms wr2) := pv
                clear Ht pv
                go_wp2
                go_loopw [18] (fun j wr3 => ∃ (k : Nat), k ≤ ms.length ∧ j = .int .i64 k ∧ MoPv w d0 d1 d2 b n1 n2 (.slice lo xs.length lc) (.slice mo ms.length mc) xs ms wr3) (fun j _ => ms.length - (RowKit.intOf j).toNat)
                case atStart => exact ⟨0, by omega, rfl, HP3.out⟩
                case round =>
                  clear HP3
                  rename World => wr3
                  obtain ⟨k, hk, rfl, pv⟩ := hrel
                  by_cases hltk : (k : Int) < (ms.length : Int)
                  · have hk2 : k < ms.length := by omega
                    by_cases hki : k = i
                    · have g1 : ((k : Int) != (i : Int)) = false := by simp [hki]
                      have g2 : decide ((k : Int) = (i : Int)) = true := by simp [hki]
                      have HPv : Hid (MoPv w d0 d1 d2 b n1 n2 (.slice lo xs.length lc) (.slice mo ms.length mc) xs ms wr3) := pv
                      clear pv
                      go_wp2_with fail
                      refine wp_region_look mixed (by kernel_rfl) ?_
                      repeat (go_big_quiet_step (fail))
                      refine wpQuiet_nil ?_
                      intro X
                      have HP2 := HPv.out.later X.le
                      clear HPv
                      generalize X.wd = w6 at *
                      clear X
                      have HP3 : Hid (MoPv w d0 d1 d2 b n1 n2 (.slice lo xs.length lc) (.slice mo ms.length mc) xs ms w6) := HP2
                      clear HP2
                      go_wp2
                      exact ⟨⟨k + 1, by omega, by go_num, HP3.out⟩, by simp [RowKit.intOf]; omega⟩
                    · have g1 : ((k : Int) != (i : Int)) = true := by
                        simp only [bne_iff_ne, ne_eq]; omega
                      have g2 : decide ((k : Int) = (i : Int)) = false := by
                        rw [decide_eq_false_iff_not]; omega
                      obtain ⟨gm, rfl, hati⟩ := pv.m.at hi2
                      obtain ⟨gm2, hgm2, hatk⟩ := pv.m.at hk2
                      obtain rfl : gm2 = gm := by simpa using hgm2.symm
                      have HIx : Hid (∀ w1, Calls Try.prog 21 #[A3 d0 d1 d2, B6 (ms.getD i zX), B6 (ms.getD k zX)] w1 fun e W' => e = .returned (.bool false) ∧ Below w1.heap.size w1 W') := fun w1 => by
                        have := HIn.out (ms.getD i zX) (ms.getD k zX) w1 (HOk.out.mm _ (getX_mem hi2)) (HOk.out.mm _ (getX_mem hk2))
                        rw [HOk.out.lone i k hi2 hk2 hki] at this
                        exact this
                      have HPv : Hid (MoPv w d0 d1 d2 b n1 n2 (.slice lo xs.length lc) (.slice (some ⟨gm2, 0, none⟩) ms.length mc) xs ms wr3) := pv
                      generalize ms.getD k zX = bk at *
                      generalize ms.getD i zX = bi at *
                      obtain ⟨x0, x1, x2, x3, x4, x5⟩ := hati.ext
                      obtain ⟨y0, y1, y2, y3, y4, y5⟩ := hatk.ext
                      have z0 := Ext.cell pv.d 0
                      have z1 := Ext.cell pv.d 1
                      have z2 := Ext.cell pv.d 2
                      simp at z0 z1 z2
                      clear hati hatk pv hgm2
                      go_wp2_with fail
                      refine wp_region_look mixed (by kernel_rfl) ?_
                      repeat (go_big_quiet_step ((go_at_call 21; exact calls_ext (HIx.out _))))
                      refine wpQuiet_nil ?_
                      intro X
                      have HP2 := HPv.out.later X.le
                      clear x0 x1 x2 x3 x4 x5 y0 y1 y2 y3 y4 y5 z0 z1 z2 HPv HIx
                      generalize X.wd = w6 at *
                      clear X
                      have HP3 : Hid (MoPv w d0 d1 d2 b n1 n2 (.slice lo xs.length lc) (.slice (some ⟨gm2, 0, none⟩) ms.length mc) xs ms w6) := HP2
                      clear HP2
                      go_wp2
                      exact ⟨⟨k + 1, by omega, by go_num, HP3.out⟩, by simp [RowKit.intOf]; omega⟩
                  · obtain rfl : k = ms.length := by omega
                    have HP3 : Hid (MoPv w d0 d1 d2 b n1 n2 (.slice lo xs.length lc) (.slice mo ms.length mc) xs ms wr3) := pv
                    clear pv hltk hk
                    go_wp2
                    exact ⟨⟨i + 1, by omega, by go_num, HP3.out⟩, by simp [RowKit.intOf]; omega⟩
          · obtain rfl : i = ms.length := by omega
            clear hlt hi
            obtain ⟨e0, e1, e2, ez⟩ := pv.d.three (Below.refl _ _)
            obtain ⟨q0, q1, q2, q3, q4, q5, qz⟩ := pv.b.sixX (Below.refl _ _)
            go_wp2_with fail
            refine (HGr.out _ pv.below).mono ?_
            rintro e w7 ⟨rfl, hB⟩
            have pv7 := pv.later hB
            clear e0 e1 e2 ez q0 q1 q2 q3 q4 q5 qz pv hB HGr
            obtain ⟨w8, hw8⟩ : ∃ w8, w8 = w7.alloc (.cells (C6 g) 32) := ⟨_, rfl⟩
            have hB8 : Below w7.heap.size w7 w8 := by rw [hw8]; exact (Below.refl _ w7).alloc (Nat.le_refl _) _
            have kg : Blk w8 w7.heap.size 32 (C6 g) := by rw [hw8]; exact Blk.new _ _ _
            have HW8 : Hid (w7.alloc (.cells (C6 g) 32) = w8) := hw8.symm
            have pv8 := pv7.later hB8
            clear hw8 pv7 hB8
            by_cases her : er = 0
            · subst her
              obtain ⟨mb, hgm, mg, hig⟩ := HWh.out rfl
              have HG : Hid (mayB d0 d1 d2 b ∧ g ∈ ms ∧ mayB d0 d1 d2 g ∧ inB d0 d1 d2 b g = true) := ⟨mb, hgm, mg, hig⟩
              clear mb hgm mg hig HWh
              go_wp2_with fail
              have kg8 := kg
              rw [HW8.out]
              clear kg HW8
              generalize w7.heap.size = Bg at *
              clear w7
              have pv9 : MoPv w d0 d1 d2 b n1 n2 (.slice lo xs.length lc) (.slice mo ms.length mc) xs ms w8 := pv8
              go_loopw [21] (fun j wr4 => ∃ (k : Nat), k ≤ ms.length ∧ j = .int .i64 k ∧ Hid (∀ j, j < k → sameBx (ms.getD j zX) g = false) ∧ MoPv w d0 d1 d2 b n1 n2 (.slice lo xs.length lc) (.slice mo ms.length mc) xs ms wr4 ∧ Blk wr4 Bg 32 (C6 g)) (fun j _ => ms.length - (RowKit.intOf j).toNat)
              case atStart => exact ⟨0, by omega, rfl, fun j h => absurd h (Nat.not_lt_zero j), pv9, kg8⟩
              case round =>
                clear pv8 pv9 kg8
                rename World => wr4
                obtain ⟨k, hk, rfl, HNo, pv, kg⟩ := hrel
                by_cases hltk : (k : Int) < (ms.length : Int)
                · have hk2 : k < ms.length := by omega
                  obtain ⟨gm, rfl, hatm⟩ := pv.m.at hk2
                  have HPv : Hid (MoPv w d0 d1 d2 b n1 n2 (.slice lo xs.length lc) (.slice (some ⟨gm, 0, none⟩) ms.length mc) xs ms wr4 ∧ Blk wr4 Bg 32 (C6 g)) := ⟨pv, kg⟩
                  obtain ⟨s, hs0⟩ : ∃ s, sameBx (ms.getD k zX) g = s := ⟨_, rfl⟩
                  have HNo2 : Hid (s = false → ∀ j, j < k + 1 → sameBx (ms.getD j zX) g = false) := fun h j hj => by
                    by_cases e : j = k
                    · rw [e]; exact hs0.trans h
                    · exact HNo.out j (by omega)
                  generalize ms.getD k zX = bk at *
                  have hs : sameBx ⟨bk.x, bk.y, bk.z, bk.a, bk.b, bk.c⟩ ⟨g.x, g.y, g.z, g.a, g.b, g.c⟩ = s := hs0
                  obtain ⟨x0, x1, x2, x3, x4, x5⟩ := hatm.ext
                  have y0 := Ext.cell kg 0
                  have y1 := Ext.cell kg 1
                  have y2 := Ext.cell kg 2
                  have y3 := Ext.cell kg 3
                  have y4 := Ext.cell kg 4
                  have y5 := Ext.cell kg 5
                  simp at y0 y1 y2 y3 y4 y5
                  clear hatm pv kg hs0 HNo
                  go_wp2_with fail
                  refine wp_region_look mixed (by kernel_rfl) ?_
                  repeat (go_big_quiet_step (fail))
                  refine wpQuiet_nil ?_
                  intro X
                  have HP2 := HPv.out.1.later X.le
                  have kg2 := HPv.out.2.later X.le
                  try rw [hs]
                  clear x0 x1 x2 x3 x4 x5 y0 y1 y2 y3 y4 y5 HPv hs
                  generalize X.wd = w6 at *
                  clear X
                  cases s
                  · have HP3 : Hid (MoPv w d0 d1 d2 b n1 n2 (.slice lo xs.length lc) (.slice (some ⟨gm, 0, none⟩) ms.length mc) xs ms w6 ∧ Blk w6 Bg 32 (C6 g)) := ⟨HP2, kg2⟩
                    have HNo3 : Hid (∀ j, j < k + 1 → sameBx (ms.getD j zX) g = false) := HNo2.out rfl
                    clear HP2 kg2 HNo2
                    go_wp2
                    exact ⟨⟨k + 1, by omega, by go_num, HNo3.out, HP3.out.1, HP3.out.2⟩, by simp [RowKit.intOf]; omega⟩
                  · obtain ⟨e0, e1, e2, ez⟩ := HP2.d.three (Below.refl _ _)
                    obtain ⟨q0, q1, q2, q3, q4, q5, qz⟩ := HP2.b.sixX (Below.refl _ _)
                    obtain ⟨g0, g1, g2, g3, g4, g5, gz⟩ := kg2.sixX (Below.refl _ _)
                    have HT : Hid (Below w.heap.size w w6) := HP2.below
                    have HIx : Hid (∀ w1, Calls Try.prog 21 #[A3 d0 d1 d2, B6 b, B6 g] w1 fun e W' => e = .returned (.bool true) ∧ Below w1.heap.size w1 W') := fun w1 => by
                      have := HIn.out b g w1 HG.out.1 HG.out.2.2.1
                      rw [HG.out.2.2.2] at this
                      exact this
                    clear HP2 kg2 HNo2
                    go_wp2_with fail
                    refine (HIx.out _).mono ?_
                    rintro e w9 ⟨rfl, hB⟩
                    have HT9 : Hid (Below w.heap.size w w9) := then_below HT.out hB
                    clear hB e0 e1 e2 ez q0 q1 q2 q3 q4 q5 qz g0 g1 g2 g3 g4 g5 gz
                    go_wp2
                    go_ret
                    exact ⟨rfl, HT9.out⟩
                · exfalso
                  obtain rfl : k = ms.length := by omega
                  have hg := HG.out.2.1
                  obtain ⟨j, hj, hjg⟩ := List.getElem_of_mem hg
                  have := HNo.out j hj
                  rw [show ms.getD j zX = g by simp [hj, hjg], sameBx_self] at this
                  cases this
            · have hE0 : decide (er = 0) = false := by simpa using her
              have hE1 : (er == 0) = false := by simpa using her
              have hE2 : (er != 0) = true := by simpa using her
              have HT : Hid (Below w.heap.size w (w7.alloc (.cells (C6 g) 32))) := by rw [HW8.out]; exact pv8.below
              clear her HWh pv8 kg HW8
              go_wp2
              go_ret
              exact ⟨rfl, HT.out⟩
  · have hE0 : decide (errF d0 d1 d2 ws = 0) = false := by simpa using he
    have hE1 : (errF d0 d1 d2 ws == 0) = false := by simpa using he
    have hE2 : (errF d0 d1 d2 ws != 0) = true := by simpa using he
    obtain ⟨hf, hm⟩ := errF_two he
    have HB : Hid (Below w.heap.size w w4) := pv.below
    rw [hf, hm]
    clear he hf hm pv
    generalize errF d0 d1 d2 ws = er at *
    go_wp2
    go_ret
    exact ⟨by first | rfl | simp, HB.out⟩

end Go.Proofs.Ytjmfdpilmljppaa

/-
  How the arguments of this seat's statements are opened: whole numbers, and rows of three of them.
-/
namespace Go.Proofs.Ytjmfdpilmljppaa
open Go.ChangeShapes Go.WideShapes Go.ChangeAt Go.RowKit

theorem own : ownKnob Try.prog.godebug = none := by kernel_rfl
theorem laidOut : laidOutB Try.prog = true := by kernel_rfl

theorem list3 {α : Type} (l : List α) (h : (⟨l⟩ : Array α).size = 3) : ∃ a b c, l = [a, b, c] := by
  match l, h with
  | [a, b, c], _ => exact ⟨a, b, c, rfl⟩

/-- A row of three whole numbers, by value. -/
theorem open_arr3 {P : Program} {w : World} {H : Type} {enc : TypeId × Value → H} {r : Reach} {b0 base : Nat} {spare : Nat → Bool} {held : Bool} {t e : TypeId} {v : Value} {d : DataW H} {p : List MemPlace}
    (ht : P.underlying t = some (.array 3 e)) (he : P.underlying e = some (.int .i64)) (hce : P.cellsOf e = 1) (hct : P.cellsOf t = 3)
    (hv : Value.okWide P w r b0 t v) (h : DataW.Trod enc P w base spare held t v d p) :
    ∃ a b c : Int, v = A3 a b c ∧ (Lit.int .i64 a).wf = true ∧ (Lit.int .i64 b).wf = true ∧ (Lit.int .i64 c).wf = true := by
  obtain ⟨cs, rfl, hsz, _⟩ : ∃ cs, v = .agg cs ∧ cs.size = P.cellsOf t ∧ Row.okWide P w r b0 t cs := by
    simpa [Value.okWide, ht] using hv
  rw [hct] at hsz
  obtain ⟨l⟩ := cs
  obtain ⟨c0, c1, c2, rfl⟩ := list3 l hsz
  obtain ⟨fuel, hf⟩ := h
  obtain ⟨y0, y1, y2, m, hx, hy0, hy1, hy2⟩ := trod_array3 ht hce hf
  obtain ⟨x0, e0, rfl, w0⟩ := DataW.trod_int he hy0
  obtain ⟨x1, e1, rfl, w1⟩ := DataW.trod_int he hy1
  obtain ⟨x2, e2, rfl, w2⟩ := DataW.trod_int he hy2
  simp at e0 e1 e2
  subst e0 e1 e2
  exact ⟨x0, x1, x2, rfl, w0, w1, w2⟩

theorem open_num {P : Program} {w : World} {H : Type} {enc : TypeId × Value → H} {r : Reach} {b0 base : Nat} {spare : Nat → Bool} {held : Bool} {t : TypeId} {k : IntKind} {v : Value} {d : DataW H} {p : List MemPlace}
    (ht : P.underlying t = some (.int k)) (hv : Value.okWide P w r b0 t v) (h : DataW.Trod enc P w base spare held t v d p) :
    ∃ a : Int, v = .int k a ∧ (Lit.int k a).wf = true := by
  obtain ⟨x, rfl, rfl, rfl, wx⟩ := open_int ht hv h
  exact ⟨x, rfl, wx⟩

theorem trod_lt' {H : Type} {enc : TypeId × Value → H} {P : Program} {W : World} {t : TypeId} {v : Value} {d : DataW H} {ps : List MemPlace} {sp : Nat → Bool} (h : DataW.Trod enc P W 0 sp true t v d ps) : ∀ x ∈ ps, x.block < W.heap.size := by
  obtain ⟨m, hm⟩ := h; exact DataW.trod_lt m _ _ _ hm

end Go.Proofs.Ytjmfdpilmljppaa

/-
  How a box among a statement's arguments is opened: six whole numbers.
-/
namespace Go.Proofs.Ytjmfdpilmljppaa
open Go.ChangeShapes Go.WideShapes Go.ChangeAt Go.RowKit

theorem list6 {α : Type} (l : List α) (h : (⟨l⟩ : Array α).size = 6) : ∃ a b c d e f, l = [a, b, c, d, e, f] := by
  match l, h with
  | [a, b, c, d, e, f], _ => exact ⟨a, b, c, d, e, f, rfl⟩

set_option maxRecDepth 100000 in
theorem open_box {w : World} {H : Type} {enc : TypeId × Value → H} {r : Reach} {b0 base : Nat} {spare : Nat → Bool} {held : Bool} {v : Value} {d : DataW H} {p : List MemPlace}
    (hv : Value.okWide Try.prog w r b0 32 v) (h : DataW.Trod enc Try.prog w base spare held 32 v d p) : ∃ b : Bx, v = B6 b := by
  obtain ⟨f0, f1, hu, t0, o0, t1, o1⟩ : ∃ f0 f1, Try.prog.underlying 32 = some (.struct #[f0, f1]) ∧ f0.type = 25 ∧ f0.offset = 0 ∧ f1.type = 25 ∧ f1.offset = 3 := ⟨_, _, rfl, rfl, rfl, rfl, rfl⟩
  obtain ⟨cs, rfl, hsz, _⟩ : ∃ cs, v = .agg cs ∧ cs.size = Try.prog.cellsOf 32 ∧ Row.okWide Try.prog w r b0 32 cs := by
    simpa [Value.okWide, hu] using hv
  have hct : Try.prog.cellsOf 32 = 6 := by kernel_rfl
  rw [hct] at hsz
  obtain ⟨l⟩ := cs
  obtain ⟨c0, c1, c2, c3, c4, c5, rfl⟩ := list6 l hsz
  obtain ⟨fuel, hf⟩ := h
  obtain ⟨x, y, n, _, _, h0, h1⟩ := trod_struct2 hu hf
  have hc3 : Try.prog.cellsOf 25 = 3 := by kernel_rfl
  have hc1 : Try.prog.cellsOf 3 = 1 := by kernel_rfl
  rw [t0, o0, hc3] at h0
  rw [t1, o1, hc3] at h1
  have h0 : DataW.trod enc Try.prog w base spare held n 25 [c0, c1, c2] = some x := h0
  have h1 : DataW.trod enc Try.prog w base spare held n 25 [c3, c4, c5] = some y := h1
  obtain ⟨_, _, _, m, _, g0, g1, g2⟩ := trod_array3 Try.underlying25 hc1 h0
  obtain ⟨_, _, _, m', _, g3, g4, g5⟩ := trod_array3 Try.underlying25 hc1 h1
  obtain ⟨x0, e0, _, _⟩ := DataW.trod_int Try.underlying3 g0
  obtain ⟨x1, e1, _, _⟩ := DataW.trod_int Try.underlying3 g1
  obtain ⟨x2, e2, _, _⟩ := DataW.trod_int Try.underlying3 g2
  obtain ⟨x3, e3, _, _⟩ := DataW.trod_int Try.underlying3 g3
  obtain ⟨x4, e4, _, _⟩ := DataW.trod_int Try.underlying3 g4
  obtain ⟨x5, e5, _, _⟩ := DataW.trod_int Try.underlying3 g5
  simp at e0 e1 e2 e3 e4 e5
  subst e0 e1 e2 e3 e4 e5
  exact ⟨⟨x0, x1, x2, x3, x4, x5⟩, rfl⟩

end Go.Proofs.Ytjmfdpilmljppaa

/-
  How a set, and a list of whole numbers, among a statement's arguments is opened.
-/
namespace Go.Proofs.Ytjmfdpilmljppaa
open Go Go.ChangeShapes Go.WideShapes Go.ChangeAt Go.RowKit

theorem spot_none {w : World} {a : Addr} {v : Value} (h : w.cell? a = some v) : a.spot = none := by
  unfold World.cell? at h
  split at h
  · split at h
    · cases h
    · rename_i hs
      cases hq : a.spot
      · rfl
      · rw [hq] at hs; exact absurd rfl hs
  · cases h
theorem block_lt {w : World} {a : Addr} {v : Value} (h : w.cell? a = some v) : a.block < w.heap.size := by
  unfold World.cell? at h
  split at h
  · rename_i hs
    exact (Array.getElem?_eq_some_iff.1 hs).1
  · cases h

set_option maxRecDepth 100000 in
/-- A slice of numbers of one kind, as it came in. -/
theorem open_row_of {P : Program} {w : World} {H : Type} {enc : TypeId × Value → H} {r : Reach} {b0 base : Nat} {spare : Nat → Bool} {held : Bool} {t e : TypeId} {k : IntKind} {v : Value} {d : DataW H} {p : List MemPlace}
    (ht : P.underlying t = some (.slice e)) (he : P.underlying e = some (.int k)) (hc : P.cellsOf e = 1)
    (hv : Value.okWide P w r b0 t v) (h : DataW.Trod enc P w base spare held t v d p) :
    ∃ zs : List Int, (∀ z ∈ zs, (Lit.int k z).wf = true) ∧ Sl w v (zs.map (Value.int k)) ∧ (v = .slice none 0 0 ∧ zs = [] ∨ ∃ ad cap, v = .slice (some ad) zs.length cap) := by
  obtain ⟨a, len, cap, rfl⟩ := okWide_slice ht hv
  obtain ⟨fuel, hf⟩ := h
  rcases open_ints ht he hc hf with ⟨hcs, -⟩ | ⟨a0, len0, cap0, zs, hcs, _, hl, _, hz, _, hcell, hwf⟩
  · have e0 : Value.slice a len cap = .slice none 0 0 := by
      have : [Value.slice a len cap] = [.slice none 0 0] := hcs
      exact List.head_eq_of_cons_eq this
    rw [e0]
    exact ⟨[], fun _ h => (by cases h), Sl.nil w, .inl ⟨rfl, rfl⟩⟩
  · have e0 : Value.slice a len cap = .slice (some a0) len0 cap0 := by
      have : [Value.slice a len cap] = [.slice (some a0) len0 cap0] := hcs
      exact List.head_eq_of_cons_eq this
    rw [e0]
    have hlz : len0 ≤ zs.length := by rw [hz]; split <;> omega
    have hlt : (zs.take len0).length = len0 := by simp [hlz]
    refine ⟨zs.take len0, fun z hz' => hwf z (List.mem_of_mem_take hz'), ⟨some a0, cap0, by simp [hlz], fun i hi => ?_⟩, .inr ⟨a0, cap0, by rw [hlt]⟩⟩
    rw [List.length_map, hlt] at hi
    have hi2 : i < zs.length := by omega
    have c0 := hcell i hi2
    have cc := hcell 0 (by omega)
    obtain ⟨g, off, sp⟩ := a0
    have hs : sp = none := by
      have := spot_none cc
      simpa [Addr.add] using this
    subst hs
    have ea : (⟨g, off, none⟩ : Addr).add i = ⟨g, off + i, none⟩ := by
      unfold Addr.add
      split
      · rename_i h0; subst h0; rfl
      · rfl
    rw [ea] at c0
    exact ⟨g, off, rfl, block_lt c0, by rw [c0]; simp [hi, hi2]⟩

theorem word_of {z : Int} (h : (Lit.int .u64 z).wf = true) : 0 ≤ z ∧ z < 18446744073709551616 := by
  unfold Lit.wf at h
  simp [IntKind.min, IntKind.max, IntKind.signed, IntKind.bits] at h
  omega

set_option maxRecDepth 100000 in
theorem open_set {w : World} {H : Type} {enc : TypeId × Value → H} {r : Reach} {b0 base : Nat} {spare : Nat → Bool} {held : Bool} {v : Value} {d : DataW H} {p : List MemPlace}
    (hv : Value.okWide Try.prog w r b0 30 v) (h : DataW.Trod enc Try.prog w base spare held 30 v d p) : ∃ ws : List Nat, ArgW w v ws := by
  obtain ⟨zs, hw, hs, hc⟩ := open_row_of Try.underlying30 Try.underlying28 (by kernel_rfl) hv h
  have e : (zs.map Int.toNat).map U = zs.map (Value.int .u64) := by
    rw [List.map_map]
    apply List.map_congr_left
    intro z hz
    have := word_of (hw z hz)
    show Value.int .u64 ((z.toNat : Nat) : Int) = _
    rw [Int.toNat_of_nonneg this.1]
  refine ⟨zs.map Int.toNat, ⟨fun x hx => ?_, by rw [e]; exact hs⟩, ?_⟩
  · obtain ⟨z, hz, rfl⟩ := List.mem_map.1 hx
    have := word_of (hw z hz)
    omega
  · rcases hc with ⟨rfl, _⟩ | ⟨ad, cap, rfl⟩
    · exact .inl rfl
    · exact .inr ⟨ad, cap, by simp⟩

set_option maxRecDepth 100000 in
theorem open_list {w : World} {H : Type} {enc : TypeId × Value → H} {r : Reach} {b0 base : Nat} {spare : Nat → Bool} {held : Bool} {v : Value} {d : DataW H} {p : List MemPlace}
    (hv : Value.okWide Try.prog w r b0 52 v) (h : DataW.Trod enc Try.prog w base spare held 52 v d p) : ∃ xs : List Int, ArgI w v xs ∧ ∀ x ∈ xs, (Lit.int .i64 x).wf = true := by
  obtain ⟨zs, hw, hs, hc⟩ := open_row_of Try.underlying52 Try.underlying3 (by kernel_rfl) hv h
  refine ⟨zs, ⟨hs, ?_⟩, hw⟩
  rcases hc with ⟨rfl, _⟩ | h
  · exact .inl rfl
  · exact .inr h

end Go.Proofs.Ytjmfdpilmljppaa
