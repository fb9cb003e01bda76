/-
  tidehallref13.Most.
-/
import Derived.Test.YtjmfdpilmljppaaPart19
import Derived.Test.YtjmfdpilmljppaaPart7
import Derived.Test.YtjmfdpilmljppaaPart3
namespace Go.Proofs.Ytjmfdpilmljppaa
open Go Go.RowKit Go.Shelf Go.Maps

attribute [local go_sem] Oper.semAt_some ext_const
attribute [local go_sem high] eq_box

/-- Does box number i lie in none of the first n others? -/
def loneP (d0 d1 d2 : Int) (xs : List Bx) (i n : Nat) : Bool := (List.range n).all fun k => k == i || !inB d0 d1 d2 (xs.getD i zX) (xs.getD k zX)
theorem loneP_succ (d0 d1 d2 : Int) (xs : List Bx) (i n : Nat) : loneP d0 d1 d2 xs i (n + 1) = (loneP d0 d1 d2 xs i n && (n == i || !inB d0 d1 d2 (xs.getD i zX) (xs.getD n zX))) := by
  simp [loneP, List.range_succ]
theorem loneP_is {d0 d1 d2 : Int} (hd : mayD d0 d1 d2) (ws : List Nat) {i : Nat} (hi : i < (freeL d0 d1 d2 ws).length) :
    loneP d0 d1 d2 (freeL d0 d1 d2 ws) i (freeL d0 d1 d2 ws).length = lonely d0 d1 d2 (freeL d0 d1 d2 ws) ((freeL d0 d1 d2 ws).getD i zX) := by
  have hm : ∀ k, k < (freeL d0 d1 d2 ws).length → (freeL d0 d1 d2 ws).getD k zX ∈ freeL d0 d1 d2 ws := fun k hk => by simp [hk]
  have hl := lone_is hd (hm i hi)
  have hnd := freeL_nodup d0 d1 d2 ws
  rw [Bool.eq_iff_iff, hl]
  unfold loneP loneG
  rw [List.all_eq_true]
  constructor
  · intro h c hc hin
    have hcm := (free_is hd).2 hc
    obtain ⟨k, hk, e⟩ := List.getElem_of_mem hcm
    have h1 := h k (List.mem_range.2 hk)
    have e2 : (freeL d0 d1 d2 ws).getD k zX = c := by simp [hk, e]
    rw [e2, hin] at h1
    have h3 : k = i := by simpa using h1
    rw [← e2, h3]
  · intro h k hk
    have hk := List.mem_range.1 hk
    by_cases hki : k = i
    · simp [hki]
    · cases hin : inB d0 d1 d2 ((freeL d0 d1 d2 ws).getD i zX) ((freeL d0 d1 d2 ws).getD k zX)
      · simp
      · exfalso
        have e := h _ ((free_is hd).1 (hm k hk)) hin
        generalize freeL d0 d1 d2 ws = ms at *
        rw [List.pairwise_iff_getElem] at hnd
        simp only [List.getD_eq_getElem?_getD, List.getElem?_eq_getElem hi, List.getElem?_eq_getElem hk, Option.getD_some] at e
        rcases Nat.lt_or_gt_of_ne hki with h1 | h1
        · exact hnd k i hk hi h1 e
        · exact hnd i k hi hk h1 e.symm
theorem mostV_is (d0 d1 d2 : Int) (ws : List Nat) : mostV d0 d1 d2 ws = (freeV d0 d1 d2 ws).filter (lonely d0 d1 d2 (freeV d0 d1 d2 ws)) := by
  unfold mostV freeV
  split <;> rfl

set_option maxRecDepth 100000 in
set_option maxHeartbeats 16000000 in
theorem rgmost_calls {v : Value} {ws : List Nat} (d0 d1 d2 : Int) (w : World) (hv : Wds w v ws) :
    Calls Try.prog 17 #[A3 d0 d1 d2, v] w fun e W' => ∃ u, e = .returned (.tuple #[u, I (errF d0 d1 d2 ws)]) ∧ Lx W' w.heap.size u (mostV d0 d1 d2 ws) ∧ Below w.heap.size w W' := by
  have mixed : Try.prog.follows .mixedOrders = true := by kernel_rfl
  have HFr : Hid (∀ w1, Below w.heap.size w w1 → Calls Try.prog 15 #[A3 d0 d1 d2, v] w1 fun e W' => ∃ u, e = .returned (.tuple #[u, I (errF d0 d1 d2 ws)]) ∧ Lx W' w1.heap.size u (freeV d0 d1 d2 ws) ∧ Below w1.heap.size w1 W') := fun w1 h1 => rgfree_calls d0 d1 d2 w1 (hv.later h1)
  have HIn : Hid (∀ (a b : Bx) (w1 : World), a ∈ freeV d0 d1 d2 ws → b ∈ freeV d0 d1 d2 ws → Calls Try.prog 37 #[A3 d0 d1 d2, B6 a, B6 b] w1 fun e W' => e = .returned (.bool (inB d0 d1 d2 a b)) ∧ Below w1.heap.size w1 W') := fun a b w1 ha hb => rginside_calls w1 (freeV_may a ha).1 (freeV_may a ha).2 (freeV_may b hb).2
  have HLo : Hid (∀ i, i < (freeV d0 d1 d2 ws).length → loneP d0 d1 d2 (freeV d0 d1 d2 ws) i (freeV d0 d1 d2 ws).length = lonely d0 d1 d2 (freeV d0 d1 d2 ws) ((freeV d0 d1 d2 ws).getD i zX)) := fun i hi => by
    have hm : (freeV d0 d1 d2 ws).getD i zX ∈ freeV d0 d1 d2 ws := by simp [hi]
    have hd := (freeV_may _ hm).1
    have e : freeV d0 d1 d2 ws = freeL d0 d1 d2 ws := by
      unfold freeV at hi ⊢
      split
      · rfl
      · rename_i h
        rw [if_neg h] at hi
        exact absurd hi (by simp)
    rw [e] at hi ⊢
    exact loneP_is hd ws hi
  have hxl := freeV_len (d0 := d0) (d1 := d1) (d2 := d2) (ws := ws)
  rw [mostV_is]
  obtain ⟨ao, cap, rfl, _⟩ := hv.view
  clear hv
  generalize lonely d0 d1 d2 (freeV d0 d1 d2 ws) = lo at *
  generalize freeV d0 d1 d2 ws = xs at *
  generalize errF d0 d1 d2 ws = er at *
  generalize ws.length = n at *
  obtain ⟨ML, hML⟩ : ∃ ML, ML = xs.filter lo := ⟨_, rfl⟩
  rw [← hML]
  have HML : Hid (ML = xs.filter lo) := hML
  clear hML
  have hB0 : Below w.heap.size w (w.alloc (.cells #[I d0, I d1, I d2] 26)) := (Below.refl _ w).alloc (Nat.le_refl _) _
  have b0 := Blk.new w 26 #[I d0, I d1, I d2]
  obtain ⟨c0, c1, c2, cz⟩ := b0.three (Below.refl _ _)
  go_enter Try.func17, Try.ntmps17
  go_wp2_with fail
  refine (HFr.out _ hB0).mono ?_
  rintro e w1 ⟨u, rfl, hL, hB⟩
  replace b0 := b0.later hB
  have hT := then_below hB0 hB
  have hL : Lx w1 w.heap.size u xs := hL.weak (by simp)
  clear hB hB0 HFr c0 c1 c2 cz
  obtain ⟨lp, lc, rfl, hL⟩ := hL.form
  have HW1 : Hid (Below w.heap.size w w1 ∧ Blk w1 w.heap.size 26 #[I d0, I d1, I d2] ∧ Lx w1 w.heap.size (.slice lp xs.length lc) xs) := ⟨hT, b0, hL⟩
  clear b0 hT hL
  go_wp2
  go_loopw [8, 9] (fun u i wr => ∃ (k : Nat), k ≤ xs.length ∧ i = .int .i64 k ∧ Lx wr w1.heap.size u ((xs.take k).filter lo) ∧ Hid (Below w1.heap.size w1 wr)) (fun _ i _ => xs.length - (RowKit.intOf i).toNat)
  case atStart => exact ⟨0, by omega, rfl, Lx.nil _ _, Below.refl _ _⟩
  case round =>
    obtain ⟨k, hk, rfl, hO0, HBw⟩ := hrel
    obtain ⟨ao9, cap9, rfl, hO⟩ := hO0.form
    clear hO0
    by_cases hlt : (k : Int) < (xs.length : Int)
    · have hk2 : k < xs.length := by omega
      obtain ⟨gl, rfl, hat⟩ := (HW1.out.2.2.later HBw.out).at hk2
      obtain ⟨b, hb⟩ : ∃ b, b = xs.getD k zX := ⟨_, rfl⟩
      have hbm : b ∈ xs := by rw [hb]; simp [hk2]
      have HT1 : Hid (lo b = true → (xs.take (k + 1)).filter lo = (xs.take k).filter lo ++ [b]) := fun h => by
        rw [List.take_succ_eq_append_getElem hk2, List.filter_append, show xs[k] = b by rw [hb]; simp [hk2]]
        simp [h]
      have HT0 : Hid (lo b = false → (xs.take (k + 1)).filter lo = (xs.take k).filter lo) := fun h => by
        rw [List.take_succ_eq_append_getElem hk2, List.filter_append, show xs[k] = b by rw [hb]; simp [hk2]]
        simp [h]
      have HLk : Hid (loneP d0 d1 d2 xs k xs.length = lo b) := by
        have := HLo.out k hk2
        rw [← hb] at this
        exact this
      have HP0 : Hid (loneP d0 d1 d2 xs k 0 = true) := rfl
      have HPs : Hid (∀ j, loneP d0 d1 d2 xs k (j + 1) = (loneP d0 d1 d2 xs k j && (j == k || !inB d0 d1 d2 b (xs.getD j zX)))) := fun j => by
        have := loneP_succ d0 d1 d2 xs k j
        rw [← hb] at this
        exact this
      have HIk : Hid (∀ (c : Bx) (w1 : World), c ∈ xs → Calls Try.prog 37 #[A3 d0 d1 d2, B6 b, B6 c] w1 fun e W' => e = .returned (.bool (inB d0 d1 d2 b c)) ∧ Below w1.heap.size w1 W') := fun c w1 hc => HIn.out b c w1 hbm hc
      rw [← hb] at hat
      have hfl : ((xs.take k).filter lo).length ≤ 1000000 := Nat.le_trans (List.length_filter_le _ _) (by rw [List.length_take]; omega)
      have HOut : Hid (Lx wr w1.heap.size (.slice ao9 ((xs.take k).filter lo).length cap9) ((xs.take k).filter lo) ∧ Below w1.heap.size w1 wr ∧ At6 wr gl (k * 6) b) := ⟨hO, HBw.out, hat⟩
      clear hbm hb hat hO HBw
      generalize (xs.take k).filter lo = ys at *
      generalize hys : (xs.take (k + 1)).filter lo = ys1 at *
      have HYs : Hid ((xs.take (k + 1)).filter lo = ys1) := hys
      clear hys
      generalize loneP d0 d1 d2 xs k = lp at *
      generalize inB d0 d1 d2 b = ib at *
      generalize lo b = lb at *
      go_wp2
      go_loopw [10, 11] (fun u i wr => ∃ (j : Nat), j ≤ xs.length ∧ i = .int .i64 j ∧ u = .bool (lp j) ∧ Hid (Lx wr w1.heap.size (.slice ao9 ys.length cap9) ys ∧ Below w1.heap.size w1 wr ∧ At6 wr gl (k * 6) b)) (fun _ i _ => xs.length - (RowKit.intOf i).toNat)
      case atStart => exact ⟨0, by omega, rfl, by rw [HP0.out], HOut.out⟩
      case round =>
        clear HOut
        rename World => wr
        obtain ⟨j, hj, rfl, rfl, HOut⟩ := hrel
        by_cases hltj : (j : Int) < (xs.length : Int)
        · have hj2 : j < xs.length := by omega
          obtain ⟨g', eg, hatj⟩ := (HW1.out.2.2.later HOut.out.2.1).at hj2
          rw [Option.some.injEq, Addr.mk.injEq] at eg
          obtain ⟨rfl, _⟩ := eg
          by_cases hjk : j = k
          · subst hjk
            have HPj : Hid (lp (j + 1) = lp j) := by
              show _ = _
              rw [HPs.out j]
              simp
            clear hatj
            generalize lp j = lj at *
            have hne : ((j : Int) != (j : Int)) = false := by simp
            go_wp2_with fail
            refine wp_region_look mixed (by kernel_rfl) ?_
            repeat (go_big_quiet_step (fail))
            refine wpQuiet_nil ?_
            intro X
            have hX := X.le
            have HO2 : Hid (Lx X.wd w1.heap.size (.slice ao9 ys.length cap9) ys ∧ Below w1.heap.size w1 X.wd ∧ At6 X.wd gl (j * 6) b) := ⟨HOut.out.1.later hX, HOut.out.2.1.trans (hX.mono HOut.out.2.1.size), HOut.out.2.2.later hX⟩
            clear HOut hX
            generalize X.wd = w9 at *
            clear X
            try simp only [hne]
            go_wp2
            exact ⟨⟨j + 1, by omega, by go_num, by rw [HPj.out], HO2.out⟩, by simp [RowKit.intOf]; omega⟩
          · have hcm : xs.getD j zX ∈ xs := by simp [hj2]
            have HIj := fun w1 => HIk.out (xs.getD j zX) w1 hcm
            have HPj : Hid (lp (j + 1) = (lp j && !ib (xs.getD j zX))) := by
              show _ = _
              rw [HPs.out j, show (j == k) = false by simpa using hjk, Bool.false_or]
            generalize xs.getD j zX = c at *
            generalize ib c = ic at *
            have HIj : Hid (∀ x : Ext wr, Calls Try.prog 37 #[A3 d0 d1 d2, B6 b, B6 c] x.wd fun e W' => e = .returned (.bool ic) ∧ Below x.wd.heap.size x.wd W') := fun x => HIj x.wd
            generalize lp j = lj at *
            have hne : ((j : Int) != (k : Int)) = true := by simp; omega
            have kd := HW1.out.2.1.later HOut.out.2.1
            have x0 := Ext.cell kd 0
            have x1 := Ext.cell kd 1
            have x2 := Ext.cell kd 2
            obtain ⟨cb, hb1, hb2⟩ := HOut.out.2.2
            have y0 := Ext.cell hb1 (k * 6)
            have y1 := Ext.cell hb1 (k * 6 + 1)
            have y2 := Ext.cell hb1 (k * 6 + 2)
            have y3 := Ext.cell hb1 (k * 6 + 3)
            have y4 := Ext.cell hb1 (k * 6 + 4)
            have y5 := Ext.cell hb1 (k * 6 + 5)
            obtain ⟨cc, hc1, hc2⟩ := hatj
            have z0 := Ext.cell hc1 (j * 6)
            have z1 := Ext.cell hc1 (j * 6 + 1)
            have z2 := Ext.cell hc1 (j * 6 + 2)
            have z3 := Ext.cell hc1 (j * 6 + 3)
            have z4 := Ext.cell hc1 (j * 6 + 4)
            have z5 := Ext.cell hc1 (j * 6 + 5)
            rw [hb2 1 (by omega)] at y1
            rw [hb2 2 (by omega)] at y2
            rw [hb2 3 (by omega)] at y3
            rw [hb2 4 (by omega)] at y4
            rw [hb2 5 (by omega)] at y5
            rw [show cb[k * 6]? = _ from hb2 0 (by omega)] at y0
            rw [hc2 1 (by omega)] at z1
            rw [hc2 2 (by omega)] at z2
            rw [hc2 3 (by omega)] at z3
            rw [hc2 4 (by omega)] at z4
            rw [hc2 5 (by omega)] at z5
            rw [show cc[j * 6]? = _ from hc2 0 (by omega)] at z0
            simp [cellsX] at x0 x1 x2 y0 y1 y2 y3 y4 y5 z0 z1 z2 z3 z4 z5
            clear hb1 hb2 hc1 hc2 kd
            go_wp2_with fail
            refine wp_region_look mixed (by kernel_rfl) ?_
            repeat (go_big_quiet_step ((go_at_call 37; exact calls_ext (HIj.out _))))
            refine wpQuiet_nil ?_
            intro X
            have hX := X.le
            have HO2 : Hid (Lx X.wd w1.heap.size (.slice ao9 ys.length cap9) ys ∧ Below w1.heap.size w1 X.wd ∧ At6 X.wd gl (k * 6) b) := ⟨HOut.out.1.later hX, HOut.out.2.1.trans (hX.mono HOut.out.2.1.size), HOut.out.2.2.later hX⟩
            clear HOut hX x0 x1 x2 y0 y1 y2 y3 y4 y5 z0 z1 z2 z3 z4 z5 HIj
            generalize X.wd = w9 at *
            clear X
            try simp only [hne]
            cases ic
            · have HPk : Hid (lp (j + 1) = lj) := by
                show _ = _
                rw [HPj.out]
                simp
              go_wp2
              exact ⟨⟨j + 1, by omega, by go_num, by rw [HPk.out], HO2.out⟩, by simp [RowKit.intOf]; omega⟩
            · have HPk : Hid (lp (j + 1) = false) := by
                show _ = _
                rw [HPj.out]
                simp
              go_wp2
              exact ⟨⟨j + 1, by omega, by go_num, by rw [HPk.out], HO2.out⟩, by simp [RowKit.intOf]; omega⟩
        · obtain rfl : j = xs.length := by omega
          have HE : Hid (lp xs.length = lb) := HLk.out
          generalize lp xs.length = lj at *
          obtain rfl : lj = lb := HE.out
          cases lj
          · have HF : Hid (Lx wr w1.heap.size (.slice ao9 ys.length cap9) ys1 ∧ Below w1.heap.size w1 wr) := ⟨by rw [HT0.out (by trivial)]; exact HOut.out.1, HOut.out.2.1⟩
            clear HOut
            go_wp2
            exact ⟨⟨k + 1, by omega, by go_num, by rw [HYs.out]; exact HF.out.1, HF.out.2⟩, by simp [RowKit.intOf]; omega⟩
          · have hLy := HOut.out.1
            have hbz : w1.heap.size ≤ wr.heap.size := HOut.out.2.1.size
            obtain ⟨g0, g1, g2, g3, g4, g5⟩ := HOut.out.2.2.cells
            have gz := HOut.out.2.2.lt
            go_wp2_with (at_builtin; refine wpList_appX rfl _ _ rfl rfl rfl rfl hLy hfl hbz ?_; intro ao11 n11 cap11 w11 hL11 hB11)
            have hys1 : (xs.take (k + 1)).filter lo = ys ++ [b] := HYs.out.trans (HT1.out (by trivial))
            exact ⟨⟨k + 1, by omega, by go_num, by rw [hys1]; exact hL11, HOut.out.2.1.trans hB11⟩, by simp [RowKit.intOf]; omega⟩
    · obtain rfl : k = xs.length := by omega
      have HF : Hid (Lx wr w1.heap.size (.slice ao9 ((xs.take xs.length).filter lo).length cap9) ML ∧ Below w1.heap.size w1 wr) := by
        rw [HML.out]
        have := hO
        rw [List.take_length] at this ⊢
        exact ⟨this, HBw.out⟩
      clear hO HBw
      generalize ((xs.take xs.length).filter lo).length = nn at *
      go_wp2
      go_ret2
      exact ⟨_, rfl, HF.out.1.weak HW1.out.1.size, HW1.out.1.trans (HF.out.2.mono HW1.out.1.size)⟩

end Go.Proofs.Ytjmfdpilmljppaa

/-
  tidehallref01.Round, On, Step: the document's own answer for steps, for every input.
-/
namespace Go.Proofs.Ytjmfdpilmljppaa
open Go.RowKit Go.Shelf

attribute [local go_sem] Oper.semAt_some ext_const eq_arr

theorem rround_calls {n d : Int} (w : World) (h1 : 1 ≤ d) (h2 : d ≤ 16) : Calls Try.prog 87 #[I n, I d] w fun e W' => e = .returned (I (n % d)) ∧ W' = w := by
  obtain ⟨t1, t2, _⟩ := tmod_bd n d h1
  have e1 := Int.emod_nonneg n (b := d) (by omega)
  have e2 := Int.emod_lt_of_pos n (b := d) (by omega)
  have e3 : n.tmod d = n % d ∨ n.tmod d + d = n % d := by
    have a := Int.tmod_add_mul_tdiv n d
    have b := Int.emod_add_mul_ediv n d
    have c : (n.tmod d) % d = n % d := by
      conv => rhs; rw [← a, Int.add_mul_emod_self_left]
    rcases Int.lt_or_le (n.tmod d) 0 with h | h
    · right
      rw [← c, ← Int.add_emod_right, Int.emod_eq_of_lt (by omega) (by omega)]
    · left
      rw [← c, Int.emod_eq_of_lt h (by omega)]
  by_cases hn : n.tmod d < 0
  · have E : Hid (n.tmod d + d = n % d) := by show _ = _; omega
    clear e3 e1 e2
    go_enter Try.func87, Try.ntmps87
    go_wp2
    go_ret
    rw [← E.out]
    exact ⟨rfl, rfl⟩
  · have E : Hid (n.tmod d = n % d) := by show _ = _; omega
    clear e3 e1 e2
    go_enter Try.func87, Try.ntmps87
    go_wp2
    go_ret
    rw [← E.out]
    exact ⟨rfl, rfl⟩

end Go.Proofs.Ytjmfdpilmljppaa
