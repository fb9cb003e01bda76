/-
  grow.Most, grow.Largest.
-/
import Derived.Test.YtjmfdpilmljppaaPart14
import Derived.Test.YtjmfdpilmljppaaPart11
import Derived.Test.YtjmfdpilmljppaaPart10
namespace Go.Proofs.Ytjmfdpilmljppaa
open Go Go.RowKit Go.Shelf Go.Maps

attribute [local go_sem] Oper.semAt_some ext_const
attribute [local go_sem high] eq_box

/-- Those that can't be grown within the list. -/
def lonely (d0 d1 d2 : Int) (xs : List Bx) (b : Bx) : Bool := sameBx (growG d0 d1 d2 (memX xs) b) b
def mostL (d0 d1 d2 : Int) (xs : List Bx) : List Bx := xs.filter (lonely d0 d1 d2 xs)
theorem freeL_may {d0 d1 d2 : Int} (hd : mayD d0 d1 d2) {ws : List Nat} {b : Bx} (h : b ∈ freeL d0 d1 d2 ws) : mayB d0 d1 d2 b ∧ canonB d0 d1 d2 b = b :=
  boxesZ_may hd (List.mem_filter.1 h).1
theorem errF_may {d0 d1 d2 : Int} {ws : List Nat} (h : errF d0 d1 d2 ws = 0) : mayD d0 d1 d2 ∧ errAll (d0 * d1 * d2) [ws] = 0 ∧ d0 * d1 * d2 ≤ 64 := by
  rcases errG_cases d0 d1 d2 ws with ⟨hd, he, hr⟩ | h2
  · refine ⟨hd, he, ?_⟩
    unfold errF at h
    rw [hr, if_pos rfl] at h
    split at h
    · cases h
    · omega
  · have hr : errG d0 d1 d2 ws = 8 := by rcases h2 with ⟨_, h⟩ | ⟨_, _, h⟩ <;> exact h
    unfold errF at h
    rw [hr] at h
    cases h
theorem freeV_len {d0 d1 d2 : Int} {ws : List Nat} : (freeV d0 d1 d2 ws).length ≤ 262144 := by
  unfold freeV
  split
  · rename_i h
    obtain ⟨hd, _, hn⟩ := errF_may h
    unfold freeL
    exact Nat.le_trans (List.length_filter_le _ _) (boxesZ_len hd hn)
  · simp

set_option maxRecDepth 100000 in
set_option maxHeartbeats 8000000 in
theorem gmost_ok {d0 d1 d2 : Int} {v : Value} {ws : List Nat} (w : World) (hv : Wds w v ws) (he : errF d0 d1 d2 ws = 0) :
    Calls Try.prog 16 #[A3 d0 d1 d2, v] w fun e W' => ∃ u, e = .returned (.tuple #[u, I 0]) ∧ Lx W' w.heap.size u (mostL d0 d1 d2 (freeL d0 d1 d2 ws)) ∧ Below w.heap.size w W' := by
  have mixed : Try.prog.follows .mixedOrders = true := by kernel_rfl
  obtain ⟨hd, _, _⟩ := errF_may he
  have HFr : Hid (∀ w1, Below w.heap.size w w1 → Calls Try.prog 12 #[A3 d0 d1 d2, v] w1 fun e W' => ∃ u, e = .returned (.tuple #[u, I 0]) ∧ Lx W' w1.heap.size u (freeL d0 d1 d2 ws) ∧ Below w1.heap.size w1 W') := fun w1 h1 => by
    have := gfree_calls d0 d1 d2 w1 (hv.later h1)
    rw [he, show freeV d0 d1 d2 ws = freeL d0 d1 d2 ws by simp [freeV, he]] at this
    exact this
  have hmx : ∀ x ∈ freeL d0 d1 d2 ws, mayB d0 d1 d2 x := fun x hx => (freeL_may hd hx).1
  have hxl : (freeL d0 d1 d2 ws).length ≤ 262144 := by
    have := freeV_len (d0 := d0) (d1 := d1) (d2 := d2) (ws := ws)
    rwa [show freeV d0 d1 d2 ws = freeL d0 d1 d2 ws by simp [freeV, he]] at this
  have HAm : Hid (∀ w1 u base, Lx w1 base u (freeL d0 d1 d2 ws) → Calls Try.prog 36 #[u] w1 fun e W' => ∃ p g n D, e = .returned (.func (.func 64) #[] #[.pointer (some ⟨p, 0, none⟩)]) ∧ Blk W' p 107 #[.map (some g)] ∧ Jx W' g n D ∧ KnowsX d0 d1 d2 D (freeL d0 d1 d2 ws) ∧ Below w1.heap.size w1 W') := fun w1 u base hL => among_calls hd w1 hL hmx (by omega)
  have HGr : Hid (∀ (b : Bx) (p g n : Nat) (D : DataW Unit) (w1 : World), mayB d0 d1 d2 b → Blk w1 p 107 #[.map (some g)] → Jx w1 g n D → KnowsX d0 d1 d2 D (freeL d0 d1 d2 ws) →
      Calls Try.prog 31 #[A3 d0 d1 d2, B6 b, .func (.func 64) #[] #[.pointer (some ⟨p, 0, none⟩)]] w1 fun e W' => e = .returned (B6 (growG d0 d1 d2 (memX (freeL d0 d1 d2 ws)) b)) ∧ Below w1.heap.size w1 W') := fun b p g n D w1 hb hp hj hk =>
    grown_calls hd hb (memX (freeL d0 d1 d2 ws)) w1 (enters_of Try.func64 (by kernel_rfl) rfl) fun nx w2 hn _ h2 => isIn_calls hd hn w2 (hp.later h2) (Jx.later hj h2) hk
  have HML : Hid (mostL d0 d1 d2 (freeL d0 d1 d2 ws) = (freeL d0 d1 d2 ws).filter (lonely d0 d1 d2 (freeL d0 d1 d2 ws))) := rfl
  have HLo : Hid (∀ b, lonely d0 d1 d2 (freeL d0 d1 d2 ws) b = sameBx (growG d0 d1 d2 (memX (freeL d0 d1 d2 ws)) b) b) := fun b => rfl
  have HMx : Hid (∀ x ∈ freeL d0 d1 d2 ws, mayB d0 d1 d2 x) := hmx
  obtain ⟨ao, cap, rfl, _⟩ := hv.view
  clear hv he hd hmx
  generalize mostL d0 d1 d2 (freeL d0 d1 d2 ws) = ML at *
  generalize lonely d0 d1 d2 (freeL d0 d1 d2 ws) = lo at *
  generalize growG d0 d1 d2 (memX (freeL d0 d1 d2 ws)) = gr at *
  generalize freeL d0 d1 d2 ws = xs at *
  generalize ws.length = n at *
  go_enter Try.func16, Try.ntmps16
  have hB0 : Below w.heap.size w (w.alloc (.cells #[I d0, I d1, I d2] 26)) := (Below.refl _ w).alloc (Nat.le_refl _) _
  have k0 := Blk.new w 26 #[I d0, I d1, I d2]
  go_wp2_with fail
  refine (HFr.out _ hB0).mono ?_
  rintro e w1 ⟨u, rfl, hL, hB⟩
  have hB1 := then_below hB0 hB
  have hL : Lx w1 w.heap.size u xs := hL.weak (by simp)
  replace k0 := k0.later hB
  clear hB hB0 HFr
  obtain ⟨ao1, cap1, rfl, hL⟩ := hL.form
  go_wp2_with fail
  refine (HAm.out _ _ _ hL).mono ?_
  rintro e w2 ⟨p, g, nm, D, rfl, hp, hj, hk, hB⟩
  have hB2 := then_below hB1 hB
  have hL2 := hL.later hB
  replace k0 := k0.later hB
  have HK : Hid (KnowsX d0 d1 d2 D xs) := hk
  clear hB hB1 hL HAm hk
  have HW2 : Hid (Below w.heap.size w w2 ∧ Blk w2 w.heap.size 26 #[I d0, I d1, I d2] ∧ Blk w2 p 107 #[.map (some g)] ∧ Jx w2 g nm D) := ⟨hB2, k0, hp, hj⟩
  clear hB2 k0 hp hj
  go_wp2
  go_loopw [9, 25] (fun u i wr => ∃ (k : Nat), k ≤ xs.length ∧ i = .int .i64 k ∧ Lx wr w2.heap.size u ((xs.take k).filter lo) ∧ Below w2.heap.size w2 wr) (fun _ i _ => xs.length - (RowKit.intOf i).toNat)
  case atStart => exact ⟨0, by omega, rfl, Lx.nil _ _, Below.refl _ _⟩
  case round =>
    obtain ⟨k, hk, rfl, hO0, hBw⟩ := hrel
    obtain ⟨ao9, cap9, rfl, hO⟩ := hO0.form
    clear hO0
    by_cases hlt : (k : Int) < (xs.length : Int)
    · have hk2 : k < xs.length := by omega
      obtain ⟨gl, hgl, hat⟩ := (hL2.later hBw).at hk2
      obtain ⟨b, hb⟩ : ∃ b, b = xs.getD k zX := ⟨_, rfl⟩
      have hbm : b ∈ xs := by rw [hb]; simp [hk2]
      have hmay := HMx.out b hbm
      have HT1 : Hid (lo b = true → (xs.take (k + 1)).filter lo = (xs.take k).filter lo ++ [b]) := fun h => by
        rw [List.take_succ_eq_append_getElem hk2, List.filter_append, show xs[k] = b by rw [hb]; simp [hk2]]
        simp [h]
      have HT0 : Hid (lo b = false → (xs.take (k + 1)).filter lo = (xs.take k).filter lo) := fun h => by
        rw [List.take_succ_eq_append_getElem hk2, List.filter_append, show xs[k] = b by rw [hb]; simp [hk2]]
        simp [h]
      rw [← hb] at hat
      have hfl : ((xs.take k).filter lo).length ≤ 1000000 := Nat.le_trans (List.length_filter_le _ _) (by rw [List.length_take]; omega)
      have HG : Hid (∀ w1, Below w2.heap.size w2 w1 → Calls Try.prog 31 #[A3 d0 d1 d2, B6 b, .func (.func 64) #[] #[.pointer (some ⟨p, 0, none⟩)]] w1 fun e W' => e = .returned (B6 (gr b)) ∧ Below w1.heap.size w1 W') := fun w1 h1 => HGr.out b p g nm D w1 hmay (HW2.out.2.2.1.later h1) (Jx.later HW2.out.2.2.2 h1) HK.out
      have HLb : Hid (sameBx (gr b) b = lo b) := (HLo.out b).symm
      have HOut : Hid (Lx wr w2.heap.size (.slice ao9 ((xs.take k).filter lo).length cap9) ((xs.take k).filter lo) ∧ Below w2.heap.size w2 wr) := ⟨hO, hBw⟩
      subst hgl
      obtain ⟨c0, c1, c2, c3, c4, c5⟩ := hat.cells
      have hzl := hat.lt
      clear hbm hmay hb hat hO hBw
      generalize (xs.take k).filter lo = ys at *
      generalize hys : (xs.take (k + 1)).filter lo = ys1 at *
      have HYs : Hid ((xs.take (k + 1)).filter lo = ys1) := hys
      clear hys
      generalize lo b = lb at *
      generalize gr b = gb at *
      go_wp2_with fail
      have hB9 : Below wr.heap.size wr (wr.alloc (.cells (C6 b) 32)) := (Below.refl _ wr).alloc (Nat.le_refl _) _
      have kb := Blk.new wr 32 (C6 b)
      have hBa := HOut.out.2.trans (hB9.mono HOut.out.2.size)
      have HO9 : Hid (Lx (wr.alloc (.cells (C6 b) 32)) w2.heap.size (.slice ao9 ys.length cap9) ys ∧ Below w2.heap.size w2 (wr.alloc (.cells (C6 b) 32)) ∧ Blk (wr.alloc (.cells (C6 b) 32)) wr.heap.size 32 (C6 b)) := ⟨HOut.out.1.later hB9, hBa, kb⟩
      have kd := HW2.out.2.1.later hBa
      obtain ⟨w9, hw9⟩ : ∃ w9, w9 = wr.alloc (.cells (C6 b) 32) := ⟨_, rfl⟩
      rw [← hw9] at HO9 kb kd
      rw [← hw9]
      have hwz : wr.heap.size < w9.heap.size := kb.lt
      clear hB9 hBa HOut c0 c1 c2 c3 c4 c5 hzl hw9
      generalize wr.heap.size = Bb at *
      clear wr
      have x0 := Ext.cell kd 0
      have x1 := Ext.cell kd 1
      have x2 := Ext.cell kd 2
      have y0 := Ext.cell kb 0
      have y1 := Ext.cell kb 1
      have y2 := Ext.cell kb 2
      have y3 := Ext.cell kb 3
      have y4 := Ext.cell kb 4
      have y5 := Ext.cell kb 5
      simp at x0 x1 x2 y0 y1 y2 y3 y4 y5
      have HGx : Hid (∀ x : Ext w9, Calls Try.prog 31 #[A3 d0 d1 d2, B6 b, .func (.func 64) #[] #[.pointer (some ⟨p, 0, none⟩)]] x.wd fun e W' => e = .returned (B6 gb) ∧ Below x.wd.heap.size x.wd W') := fun x => HG.out x.wd (HO9.out.2.1.trans (x.le.mono HO9.out.2.1.size))
      clear kd kb HG
      refine wp_region_look mixed (by kernel_rfl) ?_
      repeat (go_big_quiet_step ((go_at_call 31; exact calls_ext (HGx.out _))))
      refine wpQuiet_nil ?_
      intro X
      have hX := X.le
      have HO10 : Hid (Lx X.wd w2.heap.size (.slice ao9 ys.length cap9) ys ∧ Below w2.heap.size w2 X.wd ∧ Blk X.wd Bb 32 (C6 b)) := ⟨HO9.out.1.later hX, HO9.out.2.1.trans (hX.mono HO9.out.2.1.size), HO9.out.2.2.later hX⟩
      clear x0 x1 x2 y0 y1 y2 y3 y4 y5 hX HO9 HGx hwz
      generalize X.wd = w10 at *
      clear X w9
      have hE : sameBx ⟨gb.x, gb.y, gb.z, gb.a, gb.b, gb.c⟩ ⟨b.x, b.y, b.z, b.a, b.b, b.c⟩ = lb := HLb.out
      rw [hE]
      clear hE
      cases lb
      · have HF : Hid (Lx w10 w2.heap.size (.slice ao9 ys.length cap9) ys1 ∧ Below w2.heap.size w2 w10) := ⟨by rw [HT0.out (by trivial)]; exact HO10.out.1, HO10.out.2.1⟩
        clear HO10
        go_wp2
        exact ⟨⟨k + 1, by omega, by go_num, by rw [HYs.out]; exact HF.out.1, HF.out.2⟩, by simp [RowKit.intOf]; omega⟩
      · have hLy := HO10.out.1
        have hbz : w2.heap.size ≤ w10.heap.size := HO10.out.2.1.size
        obtain ⟨g0, g1, g2, g3, g4, g5, gz⟩ := HO10.out.2.2.sixX (Below.refl _ _)
        go_wp2_with (at_builtin; refine wpList_appX rfl _ _ rfl rfl rfl rfl hLy hfl hbz ?_; intro ao11 n11 cap11 w11 hL11 hB11)
        have hys1 : (xs.take (k + 1)).filter lo = ys ++ [b] := HYs.out.trans (HT1.out (by trivial))
        exact ⟨⟨k + 1, by omega, by go_num, by rw [hys1]; exact hL11, HO10.out.2.1.trans hB11⟩, by simp [RowKit.intOf]; omega⟩
    · obtain rfl : k = xs.length := by omega
      have HF : Hid (Lx wr w2.heap.size (.slice ao9 ((xs.take xs.length).filter lo).length cap9) ML ∧ Below w2.heap.size w2 wr) := by
        rw [HML.out]
        have := hO
        rw [List.take_length] at this ⊢
        exact ⟨this, hBw⟩
      clear hO hBw
      generalize ((xs.take xs.length).filter lo).length = nn at *
      go_wp2
      go_ret2
      exact ⟨_, rfl, HF.out.1.weak HW2.out.1.size, HW2.out.1.trans (HF.out.2.mono HW2.out.1.size)⟩

def mostV (d0 d1 d2 : Int) (ws : List Nat) : List Bx := if errF d0 d1 d2 ws = 0 then mostL d0 d1 d2 (freeL d0 d1 d2 ws) else []

set_option maxRecDepth 100000 in
set_option maxHeartbeats 4000000 in
theorem gmost_bad {d0 d1 d2 : Int} {v : Value} {ws : List Nat} (w : World) (hv : Wds w v ws) (he : errF d0 d1 d2 ws ≠ 0) :
    Calls Try.prog 16 #[A3 d0 d1 d2, v] w fun e W' => e = .returned (.tuple #[.slice none 0 0, I (errF d0 d1 d2 ws)]) ∧ Below w.heap.size w W' := by
  have HFr : Hid (∀ w1, Below w.heap.size w w1 → Calls Try.prog 12 #[A3 d0 d1 d2, v] w1 fun e W' => ∃ u, e = .returned (.tuple #[u, I (errF d0 d1 d2 ws)]) ∧ Lx W' w1.heap.size u (freeV d0 d1 d2 ws) ∧ Below w1.heap.size w1 W') := fun w1 h1 => gfree_calls d0 d1 d2 w1 (hv.later h1)
  obtain ⟨ao, cap, rfl, _⟩ := hv.view
  clear hv
  generalize errF d0 d1 d2 ws = er at *
  generalize freeV d0 d1 d2 ws = fv at *
  generalize ws.length = n at *
  have hE0 : decide (er = 0) = false := by simpa using he
  have hE1 : (er == 0) = false := by simpa using he
  have hE2 : (er != 0) = true := by simpa using he
  clear he
  go_enter Try.func16, Try.ntmps16
  have hB0 : Below w.heap.size w (w.alloc (.cells #[I d0, I d1, I d2] 26)) := (Below.refl _ w).alloc (Nat.le_refl _) _
  go_wp2_with fail
  refine (HFr.out _ hB0).mono ?_
  rintro e w1 ⟨u, rfl, hL, hB⟩
  have HB1 : Hid (Below w.heap.size w w1) := then_below hB0 hB
  clear hB hB0 HFr hL
  go_wp2
  go_ret2
  exact ⟨rfl, HB1.out⟩
theorem gmost_calls {v : Value} {ws : List Nat} (d0 d1 d2 : Int) (w : World) (hv : Wds w v ws) :
    Calls Try.prog 16 #[A3 d0 d1 d2, v] w fun e W' => ∃ u, e = .returned (.tuple #[u, I (errF d0 d1 d2 ws)]) ∧ Lx W' w.heap.size u (mostV d0 d1 d2 ws) ∧ Below w.heap.size w W' := by
  by_cases he : errF d0 d1 d2 ws = 0
  · refine (gmost_ok w hv he).mono ?_
    rintro e W' ⟨u, rfl, hL, hB⟩
    exact ⟨_, by rw [he], by unfold mostV; rw [if_pos he]; exact hL, hB⟩
  · refine (gmost_bad w hv he).mono ?_
    rintro e W' ⟨rfl, hB⟩
    exact ⟨_, rfl, by unfold mostV; rw [if_neg he]; exact Lx.nil _ _, hB⟩

/-- How many midplanes the largest one has. -/
def topM (xs : List Bx) : Int := xs.foldl (fun m b => max m (manyB b)) 0
theorem topM_app (xs : List Bx) (b : Bx) : topM (xs ++ [b]) = max (topM xs) (manyB b) := by simp [topM]
theorem manyB_bd {d0 d1 d2 : Int} (hd : mayD d0 d1 d2) {b : Bx} (hb : mayB d0 d1 d2 b) : 1 ≤ manyB b ∧ manyB b ≤ 4096 := by
  obtain ⟨⟨a1, a2⟩, ⟨b1, b2⟩, c1, c2⟩ := sizes_bd hd hb
  unfold manyB
  have h1 : 0 ≤ b.a * b.b ∧ b.a * b.b ≤ 16 * 16 := mul_bd (by omega) a2 (by omega) b2
  have h2 : 0 ≤ b.a * b.b * b.c ∧ b.a * b.b * b.c ≤ 256 * 16 := mul_bd h1.1 (by omega) (by omega) c2
  have h3 : 1 * 1 ≤ b.a * b.b := Int.mul_le_mul a1 b1 (by omega) (by omega)
  have h4 : 1 * 1 ≤ b.a * b.b * b.c := Int.mul_le_mul (by omega) c1 (by omega) (by omega)
  omega
theorem topM_bd {d0 d1 d2 : Int} (hd : mayD d0 d1 d2) {xs : List Bx} (hx : ∀ x ∈ xs, mayB d0 d1 d2 x) (k : Nat) : 0 ≤ topM (xs.take k) ∧ topM (xs.take k) ≤ 4096 := by
  induction k with
  | zero => simp [topM]
  | succ k ih =>
    by_cases hk : k < xs.length
    · rw [List.take_succ_eq_append_getElem hk, topM_app]
      have := manyB_bd hd (hx xs[k] (List.getElem_mem hk))
      omega
    · rw [List.take_of_length_le (by omega)] at ih ⊢
      exact ih

set_option maxRecDepth 100000 in
set_option maxHeartbeats 8000000 in
theorem glargest_ok {d0 d1 d2 : Int} {v : Value} {ws : List Nat} (w : World) (hv : Wds w v ws) (he : errF d0 d1 d2 ws = 0) :
    Calls Try.prog 8 #[A3 d0 d1 d2, v] w fun e W' => e = .returned (.tuple #[I (topM (freeL d0 d1 d2 ws)), I 0]) ∧ Below w.heap.size w W' := by
  obtain ⟨hd, _, _⟩ := errF_may he
  have HFr : Hid (∀ w1, Below w.heap.size w w1 → Calls Try.prog 12 #[A3 d0 d1 d2, v] w1 fun e W' => ∃ u, e = .returned (.tuple #[u, I 0]) ∧ Lx W' w1.heap.size u (freeL d0 d1 d2 ws) ∧ Below w1.heap.size w1 W') := fun w1 h1 => by
    have := gfree_calls d0 d1 d2 w1 (hv.later h1)
    rw [he, show freeV d0 d1 d2 ws = freeL d0 d1 d2 ws by simp [freeV, he]] at this
    exact this
  have HMx : Hid (∀ x ∈ freeL d0 d1 d2 ws, mayB d0 d1 d2 x) := fun x hx => (freeL_may hd hx).1
  have hxl : (freeL d0 d1 d2 ws).length ≤ 262144 := by
    have := freeV_len (d0 := d0) (d1 := d1) (d2 := d2) (ws := ws)
    rwa [show freeV d0 d1 d2 ws = freeL d0 d1 d2 ws by simp [freeV, he]] at this
  have HMn : Hid (∀ (b : Bx) (w1 : World), mayB d0 d1 d2 b → Calls Try.prog 22 #[A3 d0 d1 d2, B6 b] w1 fun e W' => e = .returned (.tuple #[I (manyB b), I 0]) ∧ Below w1.heap.size w1 W') := fun b w1 hb => bMany_ok w1 hd hb
  have HTp : Hid (∀ k, 0 ≤ topM ((freeL d0 d1 d2 ws).take k) ∧ topM ((freeL d0 d1 d2 ws).take k) ≤ 4096) := topM_bd hd HMx.out
  have HMb : Hid (∀ b, mayB d0 d1 d2 b → 1 ≤ manyB b ∧ manyB b ≤ 4096) := fun b hb => manyB_bd hd hb
  obtain ⟨ao, cap, rfl, _⟩ := hv.view
  clear hv he hd
  generalize freeL d0 d1 d2 ws = xs at *
  generalize ws.length = n at *
  obtain ⟨R, hR⟩ : ∃ R, R = topM xs := ⟨_, rfl⟩
  rw [← hR]
  have HR : Hid (topM xs = R) := hR.symm
  clear hR
  go_enter Try.func8, Try.ntmps8
  have hB0 : Below w.heap.size w (w.alloc (.cells #[I d0, I d1, I d2] 26)) := (Below.refl _ w).alloc (Nat.le_refl _) _
  have k0 := Blk.new w 26 #[I d0, I d1, I d2]
  go_wp2_with fail
  refine (HFr.out _ hB0).mono ?_
  rintro e w1 ⟨u, rfl, hL, hB⟩
  have hB1 := then_below hB0 hB
  have hL : Lx w1 w.heap.size u xs := hL.weak (by simp)
  replace k0 := k0.later hB
  clear hB hB0 HFr
  obtain ⟨ao1, cap1, rfl, hL⟩ := hL.form
  have HW1 : Hid (Below w.heap.size w w1) := hB1
  clear hB1
  go_wp2
  go_loopw [8, 24] (fun u i wr => ∃ (k : Nat) (m : Int), k ≤ xs.length ∧ i = .int .i64 k ∧ u = .int .i64 m ∧ Hid (topM (xs.take k) = m) ∧ Blk wr w.heap.size 26 #[I d0, I d1, I d2] ∧ Lx wr w.heap.size (.slice ao1 xs.length cap1) xs ∧ Hid (Below w.heap.size w wr)) (fun _ i _ => xs.length - (RowKit.intOf i).toNat)
  case atStart => exact ⟨0, 0, by omega, rfl, rfl, rfl, k0, hL, HW1.out⟩
  case round =>
    clear k0 hL HW1
    obtain ⟨k, m, hk, rfl, rfl, Hm, kd, hLr, HBw⟩ := hrel
    by_cases hlt : (k : Int) < (xs.length : Int)
    · have hk2 : k < xs.length := by omega
      obtain ⟨gl, rfl, hat⟩ := hLr.at hk2
      obtain ⟨b, hb⟩ : ∃ b, b = xs.getD k zX := ⟨_, rfl⟩
      have hbm : b ∈ xs := by rw [hb]; simp [hk2]
      have hmay := HMx.out b hbm
      have HT1 : Hid (topM (xs.take (k + 1)) = max m (manyB b)) := by
        show _ = _
        rw [List.take_succ_eq_append_getElem hk2, topM_app, show xs[k] = b by rw [hb]; simp [hk2], Hm.out]
      rw [← hb] at hat
      have HMc : Hid (∀ w1, Calls Try.prog 22 #[A3 d0 d1 d2, B6 b] w1 fun e W' => e = .returned (.tuple #[I (manyB b), I 0]) ∧ Below w1.heap.size w1 W') := fun w1 => HMn.out b w1 hmay
      obtain ⟨c0, c1, c2, c3, c4, c5⟩ := hat.cells
      have hzl := hat.lt
      obtain ⟨e0, e1, e2, ez⟩ := kd.three (Below.refl _ _)
      have HAll : Hid (Blk wr w.heap.size 26 #[I d0, I d1, I d2] ∧ Lx wr w.heap.size (.slice (some ⟨gl, 0, none⟩) xs.length cap1) xs) := ⟨kd, hLr⟩
      clear hbm hmay hb hat kd hLr
      generalize manyB b = mb at *
      go_wp2_with fail
      have hB9 : Below wr.heap.size wr (wr.alloc (.cells (C6 b) 32)) := (Below.refl _ wr).alloc (Nat.le_refl _) _
      refine (HMc.out _).mono ?_
      rintro e w9 ⟨rfl, hB⟩
      have hT := then_below hB9 hB
      have HAll2 : Hid (Blk w9 w.heap.size 26 #[I d0, I d1, I d2] ∧ Lx w9 w.heap.size (.slice (some ⟨gl, 0, none⟩) xs.length cap1) xs ∧ Below w.heap.size w w9) := ⟨HAll.out.1.later hT, HAll.out.2.later hT, then_below HBw.out hT⟩
      clear hB9 hB hT HAll HMc c0 c1 c2 c3 c4 c5 hzl e0 e1 e2 ez HBw Hm
      go_wp2
      have hmax : (if m < mb then mb else m) = max m mb := by
        split <;> omega
      refine ⟨⟨k + 1, max m mb, by omega, by go_num, ?_, HT1.out, HAll2.out.1, HAll2.out.2.1, HAll2.out.2.2⟩, by simp [RowKit.intOf]; omega⟩
      first
        | rw [hmax]
        | rfl
    · obtain rfl : k = xs.length := by omega
      have HF : Hid (m = R) := by
        have := Hm.out
        rw [List.take_length] at this
        exact this.symm.trans HR.out
      clear kd hLr Hm
      go_wp2
      go_ret2
      exact ⟨by rw [HF.out]; rfl, HBw.out⟩

set_option maxRecDepth 100000 in
set_option maxHeartbeats 4000000 in
theorem glargest_bad {d0 d1 d2 : Int} {v : Value} {ws : List Nat} (w : World) (hv : Wds w v ws) (he : errF d0 d1 d2 ws ≠ 0) :
    Calls Try.prog 8 #[A3 d0 d1 d2, v] w fun e W' => e = .returned (.tuple #[I 0, I (errF d0 d1 d2 ws)]) ∧ Below w.heap.size w W' := by
  have HFr : Hid (∀ w1, Below w.heap.size w w1 → Calls Try.prog 12 #[A3 d0 d1 d2, v] w1 fun e W' => ∃ u, e = .returned (.tuple #[u, I (errF d0 d1 d2 ws)]) ∧ Lx W' w1.heap.size u (freeV d0 d1 d2 ws) ∧ Below w1.heap.size w1 W') := fun w1 h1 => gfree_calls d0 d1 d2 w1 (hv.later h1)
  obtain ⟨ao, cap, rfl, _⟩ := hv.view
  clear hv
  generalize errF d0 d1 d2 ws = er at *
  generalize freeV d0 d1 d2 ws = fv at *
  generalize ws.length = n at *
  have hE0 : decide (er = 0) = false := by simpa using he
  have hE1 : (er == 0) = false := by simpa using he
  have hE2 : (er != 0) = true := by simpa using he
  clear he
  go_enter Try.func8, Try.ntmps8
  have hB0 : Below w.heap.size w (w.alloc (.cells #[I d0, I d1, I d2] 26)) := (Below.refl _ w).alloc (Nat.le_refl _) _
  go_wp2_with fail
  refine (HFr.out _ hB0).mono ?_
  rintro e w1 ⟨u, rfl, hL, hB⟩
  have HB1 : Hid (Below w.heap.size w w1) := then_below hB0 hB
  clear hB hB0 HFr hL
  go_wp2
  go_ret2
  exact ⟨rfl, HB1.out⟩
def topV (d0 d1 d2 : Int) (ws : List Nat) : Int := if errF d0 d1 d2 ws = 0 then topM (freeL d0 d1 d2 ws) else 0
theorem glargest_calls {v : Value} {ws : List Nat} (d0 d1 d2 : Int) (w : World) (hv : Wds w v ws) :
    Calls Try.prog 8 #[A3 d0 d1 d2, v] w fun e W' => e = .returned (.tuple #[I (topV d0 d1 d2 ws), I (errF d0 d1 d2 ws)]) ∧ Below w.heap.size w W' := by
  by_cases he : errF d0 d1 d2 ws = 0
  · refine (glargest_ok w hv he).mono ?_
    rintro e W' ⟨rfl, hB⟩
    exact ⟨by unfold topV; rw [he, if_pos rfl], hB⟩
  · refine (glargest_bad w hv he).mono ?_
    rintro e W' ⟨rfl, hB⟩
    exact ⟨by unfold topV; rw [if_neg he], hB⟩

end Go.Proofs.Ytjmfdpilmljppaa

/-
  grow.Grown. (Written by tools/gen/grow_whole.py.)
-/
namespace Go.Proofs.Ytjmfdpilmljppaa
open Go Go.RowKit Go.Shelf Go.Maps

attribute [local go_sem] Oper.semAt_some ext_const

def errW (d0 d1 d2 : Int) (b : Bx) (ws : List Nat) : Int := if errG d0 d1 d2 ws = 0 then (if mayBB d0 d1 d2 b then (if clearX d0 d1 d2 ws (canonB d0 d1 d2 b) then 0 else 80) else 2) else 8
def wholeV (d0 d1 d2 : Int) (b : Bx) (ws : List Nat) : Bx := if errW d0 d1 d2 b ws = 0 then growG d0 d1 d2 (clearX d0 d1 d2 ws) (canonB d0 d1 d2 b) else zX

set_option maxRecDepth 100000 in
set_option maxHeartbeats 8000000 in
theorem ggrown_bad {d0 d1 d2 : Int} {b : Bx} {v : Value} {ws : List Nat} (w : World) (hv : Wds w v ws) (hg : errG d0 d1 d2 ws ≠ 0) :
    Calls Try.prog 10 #[A3 d0 d1 d2, B6 b, v] w fun e W' => e = .returned (.tuple #[B6 zX, I 8]) ∧ Below w.heap.size w W' := by
  have HM : Hid (∀ w1, Below w.heap.size w w1 → Calls Try.prog 29 #[A3 d0 d1 d2, v] w1 fun e W' => e = .returned (.tuple #[M5 0 0 0 0 (.slice none 0 0), I 8]) ∧ Below w1.heap.size w1 W') := fun w1 h1 => by
    refine (mach_calls d0 d1 d2 w1 (hv.later h1)).mono ?_
    rintro e w2 ⟨⟨h, _⟩ | ⟨_, rfl⟩, hB⟩
    · exact absurd h hg
    · exact ⟨rfl, hB⟩
  obtain ⟨ao, cap, rfl, _⟩ := hv.view
  clear hv hg
  generalize ws.length = n at *
  obtain ⟨W, hW, hs, hB0, b0, b1, b2⟩ := three_start w #[I d0, I d1, I d2] (C6 b) #[I 0, I 0, I 0, I 0, I 0, I 0] 26 32 32
  have HW : Hid (((w.alloc (.cells #[I d0, I d1, I d2] 26)).alloc (.cells (C6 b) 32)).alloc (.cells #[I 0, I 0, I 0, I 0, I 0, I 0] 32) = W) := hW
  clear hW hs
  have HN3 : Hid (w.heap.size ≤ w.heap.size + 1 + 1) := by show _ ≤ _; omega
  go_enter Try.func10, Try.ntmps10
  obtain ⟨e0, e1, e2, ez⟩ := b0.three (Below.refl _ _)
  go_wp2_with fail
  rw [HW.out]
  refine (HM.out _ hB0).mono ?_
  rintro e w1 ⟨rfl, hB⟩
  have hB1 := then_below hB0 hB
  replace b0 := b0.later hB
  replace b1 := b1.later hB
  replace b2 := b2.later hB
  clear hB hB0 HM HW e0 e1 e2 ez
  obtain ⟨w2, hw2⟩ : ∃ w2, w2 = w1.alloc (.cells #[I 0, I 0, I 0, I 0, .slice none 0 0] 63) := ⟨_, rfl⟩
  have hB2 : Below w1.heap.size w1 w2 := by rw [hw2]; exact (Below.refl _ w1).alloc (Nat.le_refl _) _
  have km : Blk w2 w1.heap.size 63 #[I 0, I 0, I 0, I 0, .slice none 0 0] := by rw [hw2]; exact Blk.new _ _ _
  have HW2 : Hid (w1.alloc (.cells #[I 0, I 0, I 0, I 0, .slice none 0 0] 63) = w2) := hw2.symm
  clear hw2
  obtain ⟨⟨c0, c1, c2, c3, c4, c5⟩, f0, f1, f2, f3, f4, f5⟩ := b2.row6
  have z2 := b2.lt
  have HE : Hid (Blk w1 (w.heap.size + 1 + 1) 32 z6 ∧ Below w.heap.size w w1) := ⟨b2, hB1⟩
  clear b0 b1 b2 hB1 hB2 km HW2
  go_wp2
  have h6 := HE.out.1.set6 (I 0) (I 0) (I 0) (I 0) (I 0) (I 0)
  have hX := below_set6 HE.out.2 HN3.out (I 0) (I 0) (I 0) (I 0) (I 0) (I 0)
  obtain ⟨⟨m0, m1, m2, m3, m4, m5⟩, _⟩ := (h6.alloc (.cells #[I 0, I 0, I 0, I 0, .slice none 0 0] 63)).row6
  have hX2 := then_alloc hX (.cells #[I 0, I 0, I 0, I 0, .slice none 0 0] 63)
  exact bodyPost_ret (v := .tuple #[B6 zX, I 8]) (by simp [results, Try.f10, go_sem, m0, m1, m2, m3, m4, m5]) rfl ⟨rfl, hX2⟩

set_option maxRecDepth 100000 in
set_option maxHeartbeats 8000000 in
theorem ggrown_arg {d0 d1 d2 : Int} {b : Bx} {v : Value} {ws : List Nat} (w : World) (hv : Wds w v ws) (hg : errG d0 d1 d2 ws = 0) (hd : mayD d0 d1 d2) (hb : ¬ mayB d0 d1 d2 b) :
    Calls Try.prog 10 #[A3 d0 d1 d2, B6 b, v] w fun e W' => e = .returned (.tuple #[B6 zX, I 2]) ∧ Below w.heap.size w W' := by
  have HM : Hid (∀ w1, Below w.heap.size w w1 → Calls Try.prog 29 #[A3 d0 d1 d2, v] w1 fun e W' => e = .returned (.tuple #[M5 d0 d1 d2 (d0 * d1 * d2) v, I 0]) ∧ Below w1.heap.size w1 W') := fun w1 h1 => by
    refine (mach_calls d0 d1 d2 w1 (hv.later h1)).mono ?_
    rintro e w2 ⟨⟨_, rfl⟩ | ⟨h, _⟩, hB⟩
    · exact ⟨rfl, hB⟩
    · rw [hg] at h; cases h
  have HC : Hid (∀ w, Calls Try.prog 23 #[A3 d0 d1 d2, B6 b] w fun e W' => e = .returned (.tuple #[B6 zX, I 2]) ∧ Below w.heap.size w W') := fun w => by
    have he := errB_no hd hb
    have := bcanon_err w (d0 := d0) (d1 := d1) (d2 := d2) (b := b) (by rw [he]; decide)
    rw [he] at this
    exact this
  obtain ⟨ao, cap, rfl, _⟩ := hv.view
  clear hv hg hd hb
  generalize d0 * d1 * d2 = N at *
  generalize ws.length = n at *
  obtain ⟨W, hW, hs, hB0, b0, b1, b2⟩ := three_start w #[I d0, I d1, I d2] (C6 b) #[I 0, I 0, I 0, I 0, I 0, I 0] 26 32 32
  have HW : Hid (((w.alloc (.cells #[I d0, I d1, I d2] 26)).alloc (.cells (C6 b) 32)).alloc (.cells #[I 0, I 0, I 0, I 0, I 0, I 0] 32) = W) := hW
  clear hW hs
  have HN3 : Hid (w.heap.size ≤ w.heap.size + 1 + 1) := by show _ ≤ _; omega
  go_enter Try.func10, Try.ntmps10
  obtain ⟨e0, e1, e2, ez⟩ := b0.three (Below.refl _ _)
  go_wp2_with fail
  rw [HW.out]
  refine (HM.out _ hB0).mono ?_
  rintro e w1 ⟨rfl, hB⟩
  have hB1 := then_below hB0 hB
  replace b0 := b0.later hB
  replace b1 := b1.later hB
  replace b2 := b2.later hB
  clear hB hB0 HM HW e0 e1 e2 ez
  obtain ⟨w2, hw2⟩ : ∃ w2, w2 = w1.alloc (.cells #[I d0, I d1, I d2, I N, .slice ao n cap] 63) := ⟨_, rfl⟩
  have hB2 : Below w1.heap.size w1 w2 := by rw [hw2]; exact (Below.refl _ w1).alloc (Nat.le_refl _) _
  have km : Blk w2 w1.heap.size 63 #[I d0, I d1, I d2, I N, .slice ao n cap] := by rw [hw2]; exact Blk.new _ _ _
  have HW2 : Hid (w1.alloc (.cells #[I d0, I d1, I d2, I N, .slice ao n cap] 63) = w2) := hw2.symm
  clear hw2
  obtain ⟨e0, e1, e2, ez⟩ := b0.three (Below.refl _ _)
  obtain ⟨g0, g1, g2, g3, g4, g5, gz⟩ := b1.sixX (Below.refl _ _)
  go_wp2_with fail
  rw [HW2.out]
  refine (HC.out _).mono ?_
  rintro e w3 ⟨rfl, hB⟩
  have hT := then_below hB2 hB
  replace b2 := b2.later hT
  have hB3 := then_below hB1 hT
  clear e0 e1 e2 ez g0 g1 g2 g3 g4 g5 gz b0 b1 km hB hB1 hB2 hT HC HW2
  obtain ⟨⟨c0, c1, c2, c3, c4, c5⟩, f0, f1, f2, f3, f4, f5⟩ := b2.row6
  have z2 := b2.lt
  have HE : Hid (Blk w3 (w.heap.size + 1 + 1) 32 z6 ∧ Below w.heap.size w w3) := ⟨b2, hB3⟩
  clear b2 hB3
  go_wp2
  have h6 := HE.out.1.set6 (I 0) (I 0) (I 0) (I 0) (I 0) (I 0)
  have hX := below_set6 HE.out.2 HN3.out (I 0) (I 0) (I 0) (I 0) (I 0) (I 0)
  obtain ⟨⟨m0, m1, m2, m3, m4, m5⟩, _⟩ := (h6.alloc (.cells (C6 zX) 32)).row6
  have hX2 := then_alloc hX (.cells (C6 zX) 32)
  exact bodyPost_ret (v := .tuple #[B6 zX, I 2]) (by simp [results, Try.f10, go_sem, m0, m1, m2, m3, m4, m5]) rfl ⟨rfl, hX2⟩

set_option maxRecDepth 100000 in
set_option maxHeartbeats 8000000 in
theorem ggrown_taken {d0 d1 d2 : Int} {b : Bx} {v : Value} {ws : List Nat} (w : World) (hv : Wds w v ws) (hg : errG d0 d1 d2 ws = 0) (hd : mayD d0 d1 d2) (he : errAll (d0 * d1 * d2) [ws] = 0) (hb : mayB d0 d1 d2 b) (hc : clearX d0 d1 d2 ws (canonB d0 d1 d2 b) = false) :
    Calls Try.prog 10 #[A3 d0 d1 d2, B6 b, v] w fun e W' => e = .returned (.tuple #[B6 zX, I 80]) ∧ Below w.heap.size w W' := by
  have HM : Hid (∀ w1, Below w.heap.size w w1 → Calls Try.prog 29 #[A3 d0 d1 d2, v] w1 fun e W' => e = .returned (.tuple #[M5 d0 d1 d2 (d0 * d1 * d2) v, I 0]) ∧ Below w1.heap.size w1 W') := fun w1 h1 => by
    refine (mach_calls d0 d1 d2 w1 (hv.later h1)).mono ?_
    rintro e w2 ⟨⟨_, rfl⟩ | ⟨h, _⟩, hB⟩
    · exact ⟨rfl, hB⟩
    · rw [hg] at h; cases h
  have HC : Hid (∀ w, Calls Try.prog 23 #[A3 d0 d1 d2, B6 b] w fun e W' => e = .returned (.tuple #[B6 (canonB d0 d1 d2 b), I 0]) ∧ Below w.heap.size w W') := fun w => bcanon_ok w hd hb
  have HI : Hid (∀ w1, Below w.heap.size w w1 → Calls Try.prog 30 #[M5 d0 d1 d2 (d0 * d1 * d2) v, B6 (canonB d0 d1 d2 b)] w1 fun e W' => e = .returned (.bool false) ∧ Below w1.heap.size w1 W') := fun w1 h1 => by
    have := isFree_calls w1 hd (canon_may hb) (hv.later h1) he
    rw [hc] at this
    exact this
  obtain ⟨ao, cap, rfl, _⟩ := hv.view
  clear hv hg hd he hb hc
  generalize canonB d0 d1 d2 b = cb at *
  generalize d0 * d1 * d2 = N at *
  generalize ws.length = n at *
  obtain ⟨W, hW, hs, hB0, b0, b1, b2⟩ := three_start w #[I d0, I d1, I d2] (C6 b) #[I 0, I 0, I 0, I 0, I 0, I 0] 26 32 32
  have HW : Hid (((w.alloc (.cells #[I d0, I d1, I d2] 26)).alloc (.cells (C6 b) 32)).alloc (.cells #[I 0, I 0, I 0, I 0, I 0, I 0] 32) = W) := hW
  clear hW hs
  have HN3 : Hid (w.heap.size ≤ w.heap.size + 1 + 1) := by show _ ≤ _; omega
  go_enter Try.func10, Try.ntmps10
  obtain ⟨e0, e1, e2, ez⟩ := b0.three (Below.refl _ _)
  go_wp2_with fail
  rw [HW.out]
  refine (HM.out _ hB0).mono ?_
  rintro e w1 ⟨rfl, hB⟩
  have hB1 := then_below hB0 hB
  replace b0 := b0.later hB
  replace b1 := b1.later hB
  replace b2 := b2.later hB
  clear hB hB0 HM HW e0 e1 e2 ez
  obtain ⟨w2, hw2⟩ : ∃ w2, w2 = w1.alloc (.cells #[I d0, I d1, I d2, I N, .slice ao n cap] 63) := ⟨_, rfl⟩
  have hB2 : Below w1.heap.size w1 w2 := by rw [hw2]; exact (Below.refl _ w1).alloc (Nat.le_refl _) _
  have km : Blk w2 w1.heap.size 63 #[I d0, I d1, I d2, I N, .slice ao n cap] := by rw [hw2]; exact Blk.new _ _ _
  have HW2 : Hid (w1.alloc (.cells #[I d0, I d1, I d2, I N, .slice ao n cap] 63) = w2) := hw2.symm
  clear hw2
  obtain ⟨e0, e1, e2, ez⟩ := b0.three (Below.refl _ _)
  obtain ⟨g0, g1, g2, g3, g4, g5, gz⟩ := b1.sixX (Below.refl _ _)
  go_wp2_with fail
  rw [HW2.out]
  refine (HC.out _).mono ?_
  rintro e w3 ⟨rfl, hB⟩
  have hT := then_below hB2 hB
  replace b0 := b0.later hT
  replace b2 := b2.later hT
  replace km := km.later hB
  have hB3 := then_below hB1 hT
  clear e0 e1 e2 ez g0 g1 g2 g3 g4 g5 gz b1 hB hB1 hB2 hT HC HW2
  obtain ⟨w4, hw4⟩ : ∃ w4, w4 = w3.alloc (.cells (C6 cb) 32) := ⟨_, rfl⟩
  have hB4 : Below w3.heap.size w3 w4 := by rw [hw4]; exact (Below.refl _ w3).alloc (Nat.le_refl _) _
  have kc : Blk w4 w3.heap.size 32 (C6 cb) := by rw [hw4]; exact Blk.new _ _ _
  have HW4 : Hid (w3.alloc (.cells (C6 cb) 32) = w4) := hw4.symm
  obtain ⟨⟨j0, j1, j2, j3, j4⟩, _, jz⟩ := km.row5G
  clear hw4
  go_wp2_with fail
  rw [HW4.out]
  refine (HI.out _ (then_below hB3 hB4)).mono ?_
  rintro e w5 ⟨rfl, hB⟩
  have hT := then_below hB4 hB
  replace b0 := b0.later hT
  replace b2 := b2.later hT
  replace km := km.later hT
  replace kc := kc.later hB
  have hB5 := then_below hB3 hT
  clear j0 j1 j2 j3 j4 jz hB hB3 hB4 hT HI HW4
  obtain ⟨⟨c0, c1, c2, c3, c4, c5⟩, f0, f1, f2, f3, f4, f5⟩ := b2.row6
  have z2 := b2.lt
  have HE : Hid (Blk w5 (w.heap.size + 1 + 1) 32 z6 ∧ Below w.heap.size w w5) := ⟨b2, hB5⟩
  clear b0 b2 km kc hB5
  go_wp2
  have h6 := HE.out.1.set6 (I 0) (I 0) (I 0) (I 0) (I 0) (I 0)
  have hX := below_set6 HE.out.2 HN3.out (I 0) (I 0) (I 0) (I 0) (I 0) (I 0)
  obtain ⟨⟨m0, m1, m2, m3, m4, m5⟩, _⟩ := h6.row6
  exact bodyPost_ret (v := .tuple #[B6 zX, I 80]) (by simp [results, Try.f10, go_sem, m0, m1, m2, m3, m4, m5]) rfl ⟨rfl, hX⟩

set_option maxRecDepth 100000 in
set_option maxHeartbeats 8000000 in
theorem ggrown_ok {d0 d1 d2 : Int} {b : Bx} {v : Value} {ws : List Nat} (w : World) (hv : Wds w v ws) (hg : errG d0 d1 d2 ws = 0) (hd : mayD d0 d1 d2) (he : errAll (d0 * d1 * d2) [ws] = 0) (hb : mayB d0 d1 d2 b) (hc : clearX d0 d1 d2 ws (canonB d0 d1 d2 b) = true) :
    Calls Try.prog 10 #[A3 d0 d1 d2, B6 b, v] w fun e W' => e = .returned (.tuple #[B6 (growG d0 d1 d2 (clearX d0 d1 d2 ws) (canonB d0 d1 d2 b)), I 0]) ∧ Below w.heap.size w W' := by
  have HM : Hid (∀ w1, Below w.heap.size w w1 → Calls Try.prog 29 #[A3 d0 d1 d2, v] w1 fun e W' => e = .returned (.tuple #[M5 d0 d1 d2 (d0 * d1 * d2) v, I 0]) ∧ Below w1.heap.size w1 W') := fun w1 h1 => by
    refine (mach_calls d0 d1 d2 w1 (hv.later h1)).mono ?_
    rintro e w2 ⟨⟨_, rfl⟩ | ⟨h, _⟩, hB⟩
    · exact ⟨rfl, hB⟩
    · rw [hg] at h; cases h
  have HC : Hid (∀ w, Calls Try.prog 23 #[A3 d0 d1 d2, B6 b] w fun e W' => e = .returned (.tuple #[B6 (canonB d0 d1 d2 b), I 0]) ∧ Below w.heap.size w W') := fun w => bcanon_ok w hd hb
  have HI : Hid (∀ w1, Below w.heap.size w w1 → Calls Try.prog 30 #[M5 d0 d1 d2 (d0 * d1 * d2) v, B6 (canonB d0 d1 d2 b)] w1 fun e W' => e = .returned (.bool true) ∧ Below w1.heap.size w1 W') := fun w1 h1 => by
    have := isFree_calls w1 hd (canon_may hb) (hv.later h1) he
    rw [hc] at this
    exact this
  have HG : Hid (∀ w1, Below w.heap.size w w1 → Calls Try.prog 31 #[A3 d0 d1 d2, B6 (canonB d0 d1 d2 b), .func (.func 30) #[M5 d0 d1 d2 (d0 * d1 * d2) v] #[]] w1 fun e W' => e = .returned (B6 (growG d0 d1 d2 (clearX d0 d1 d2 ws) (canonB d0 d1 d2 b))) ∧ Below w1.heap.size w1 W') := fun w1 h1 =>
    grown_calls hd (canon_may hb) (clearX d0 d1 d2 ws) w1 (enters_of Try.func30 (by kernel_rfl) rfl) fun nx w2 hn _ h2 => isFree_calls w2 hd hn ((hv.later h1).later h2) he
  obtain ⟨ao, cap, rfl, _⟩ := hv.view
  clear hv hg hd he hb hc
  generalize growG d0 d1 d2 (clearX d0 d1 d2 ws) (canonB d0 d1 d2 b) = R at *
  generalize canonB d0 d1 d2 b = cb at *
  generalize d0 * d1 * d2 = N at *
  generalize ws.length = n at *
  obtain ⟨W, hW, hs, hB0, b0, b1, b2⟩ := three_start w #[I d0, I d1, I d2] (C6 b) #[I 0, I 0, I 0, I 0, I 0, I 0] 26 32 32
  have HW : Hid (((w.alloc (.cells #[I d0, I d1, I d2] 26)).alloc (.cells (C6 b) 32)).alloc (.cells #[I 0, I 0, I 0, I 0, I 0, I 0] 32) = W) := hW
  clear hW hs
  have HN3 : Hid (w.heap.size ≤ w.heap.size + 1 + 1) := by show _ ≤ _; omega
  go_enter Try.func10, Try.ntmps10
  obtain ⟨e0, e1, e2, ez⟩ := b0.three (Below.refl _ _)
  go_wp2_with fail
  rw [HW.out]
  refine (HM.out _ hB0).mono ?_
  rintro e w1 ⟨rfl, hB⟩
  have hB1 := then_below hB0 hB
  replace b0 := b0.later hB
  replace b1 := b1.later hB
  replace b2 := b2.later hB
  clear hB hB0 HM HW e0 e1 e2 ez
  obtain ⟨w2, hw2⟩ : ∃ w2, w2 = w1.alloc (.cells #[I d0, I d1, I d2, I N, .slice ao n cap] 63) := ⟨_, rfl⟩
  have hB2 : Below w1.heap.size w1 w2 := by rw [hw2]; exact (Below.refl _ w1).alloc (Nat.le_refl _) _
  have km : Blk w2 w1.heap.size 63 #[I d0, I d1, I d2, I N, .slice ao n cap] := by rw [hw2]; exact Blk.new _ _ _
  have HW2 : Hid (w1.alloc (.cells #[I d0, I d1, I d2, I N, .slice ao n cap] 63) = w2) := hw2.symm
  clear hw2
  obtain ⟨e0, e1, e2, ez⟩ := b0.three (Below.refl _ _)
  obtain ⟨g0, g1, g2, g3, g4, g5, gz⟩ := b1.sixX (Below.refl _ _)
  go_wp2_with fail
  rw [HW2.out]
  refine (HC.out _).mono ?_
  rintro e w3 ⟨rfl, hB⟩
  have hT := then_below hB2 hB
  replace b0 := b0.later hT
  replace b2 := b2.later hT
  replace km := km.later hB
  have hB3 := then_below hB1 hT
  clear e0 e1 e2 ez g0 g1 g2 g3 g4 g5 gz b1 hB hB1 hB2 hT HC HW2
  obtain ⟨w4, hw4⟩ : ∃ w4, w4 = w3.alloc (.cells (C6 cb) 32) := ⟨_, rfl⟩
  have hB4 : Below w3.heap.size w3 w4 := by rw [hw4]; exact (Below.refl _ w3).alloc (Nat.le_refl _) _
  have kc : Blk w4 w3.heap.size 32 (C6 cb) := by rw [hw4]; exact Blk.new _ _ _
  have HW4 : Hid (w3.alloc (.cells (C6 cb) 32) = w4) := hw4.symm
  obtain ⟨⟨j0, j1, j2, j3, j4⟩, _, jz⟩ := km.row5G
  clear hw4
  go_wp2_with fail
  rw [HW4.out]
  refine (HI.out _ (then_below hB3 hB4)).mono ?_
  rintro e w5 ⟨rfl, hB⟩
  have hT := then_below hB4 hB
  replace b0 := b0.later hT
  replace b2 := b2.later hT
  replace km := km.later hT
  replace kc := kc.later hB
  have hB5 := then_below hB3 hT
  clear j0 j1 j2 j3 j4 jz hB hB3 hB4 hT HI HW4
  obtain ⟨e0, e1, e2, ez⟩ := b0.three (Below.refl _ _)
  obtain ⟨g0, g1, g2, g3, g4, g5, gz⟩ := kc.sixX (Below.refl _ _)
  obtain ⟨⟨j0, j1, j2, j3, j4⟩, _, jz⟩ := km.row5G
  go_wp2_with fail
  refine (HG.out _ hB5).mono ?_
  rintro e w6 ⟨rfl, hB⟩
  replace b2 := b2.later hB
  have hB6 := then_below hB5 hB
  clear e0 e1 e2 ez g0 g1 g2 g3 g4 g5 gz j0 j1 j2 j3 j4 jz hB hB5 HG b0 km kc
  obtain ⟨⟨c0, c1, c2, c3, c4, c5⟩, f0, f1, f2, f3, f4, f5⟩ := b2.row6
  have z2 := b2.lt
  have HE : Hid (Blk w6 (w.heap.size + 1 + 1) 32 z6 ∧ Below w.heap.size w w6) := ⟨b2, hB6⟩
  clear b2 hB6
  go_wp2
  have h6 := HE.out.1.set6 (I R.x) (I R.y) (I R.z) (I R.a) (I R.b) (I R.c)
  have hX := below_set6 HE.out.2 HN3.out (I R.x) (I R.y) (I R.z) (I R.a) (I R.b) (I R.c)
  obtain ⟨⟨m0, m1, m2, m3, m4, m5⟩, _⟩ := h6.row6
  exact bodyPost_ret (v := .tuple #[B6 R, I 0]) (by simp [results, Try.f10, go_sem, m0, m1, m2, m3, m4, m5]) rfl ⟨rfl, hX⟩

theorem ggrown_calls {v : Value} {ws : List Nat} (d0 d1 d2 : Int) (b : Bx) (w : World) (hv : Wds w v ws) :
    Calls Try.prog 10 #[A3 d0 d1 d2, B6 b, v] w fun e W' => e = .returned (.tuple #[B6 (wholeV d0 d1 d2 b ws), I (errW d0 d1 d2 b ws)]) ∧ Below w.heap.size w W' := by
  rcases errG_cases d0 d1 d2 ws with ⟨hd, he, hr⟩ | h
  · by_cases hb : mayB d0 d1 d2 b
    · cases hc : clearX d0 d1 d2 ws (canonB d0 d1 d2 b)
      · have e1 : errW d0 d1 d2 b ws = 80 := by simp [errW, hr, (mayBB_iff _ _ _ _).2 hb, hc]
        unfold wholeV
        rw [e1]
        exact ggrown_taken w hv hr hd he hb hc
      · have e1 : errW d0 d1 d2 b ws = 0 := by simp [errW, hr, (mayBB_iff _ _ _ _).2 hb, hc]
        unfold wholeV
        rw [e1, if_pos rfl]
        exact ggrown_ok w hv hr hd he hb hc
    · have e1 : errW d0 d1 d2 b ws = 2 := by simp [errW, hr, mayBB_no hb]
      unfold wholeV
      rw [e1]
      exact ggrown_arg w hv hr hd hb
  · have hr : errG d0 d1 d2 ws = 8 := by rcases h with ⟨_, h⟩ | ⟨_, _, h⟩ <;> exact h
    have e1 : errW d0 d1 d2 b ws = 8 := by simp [errW, hr]
    unfold wholeV
    rw [e1]
    exact ggrown_bad w hv (by rw [hr]; decide)

end Go.Proofs.Ytjmfdpilmljppaa

/-
  The document's answers of one set (tidehallref03.List, Has, Many); whether two lists are the same (tidehallref02.Ints).
-/
namespace Go.Proofs.Ytjmfdpilmljppaa
open Go Go.RowKit Go.Shelf

attribute [local go_sem] Oper.semAt_some ext_const

end Go.Proofs.Ytjmfdpilmljppaa

/-
  The chapter's first examples (the statements' 'alive').
-/
namespace Go.Proofs.Ytjmfdpilmljppaa
open Go Go.RowKit Go.Shelf

theorem alive_err : errAll 70 [[8, 32]] = 0 := by decide +kernel
theorem alive_list : listR 70 [8, 32] = [3, 69] := by decide +kernel
theorem alive_of : ofErr 70 [3, 69, 3] = 0 := by decide +kernel
theorem alive_ok : ofOk 70 [3, 69, 3] = true := by decide +kernel
theorem alive_bits : ∀ k, k < 128 → hasW [8, 32] k = inL [3, 69, 3] k := by decide +kernel
theorem alive_set {ws : List Nat} (h : OfIs 70 [3, 69, 3] ws) : ws = [8, 32] := by
  refine (h.yes alive_ok).ext ⟨rfl, fun x hx => ?_, fun k => ?_⟩
  · simp at hx
    rcases hx with rfl | rfl <;> decide
  · by_cases hk : k < 128
    · exact alive_bits k hk
    · rw [hasW_past (by simp; omega)]
      unfold inL
      symm
      rw [Bool.eq_false_iff]
      intro hc
      simp at hc
      omega

theorem its_of_blk {W : World} {g : Nat} {xs : List Int} {t : TypeId} (h : Blk W g t (xs.map I).toArray) (cap : Nat) : Its W (.slice (some ⟨g, 0, none⟩) xs.length cap) xs := by
  have := Sl.blk h cap
  rw [List.length_map] at this
  exact this
theorem wds_of_blk {W : World} {g : Nat} {ws : List Nat} {t : TypeId} (hw : ∀ x ∈ ws, x < 18446744073709551616) (h : Blk W g t (ws.map U).toArray) (cap : Nat) : Wds W (.slice (some ⟨g, 0, none⟩) ws.length cap) ws := by
  have := Sl.blk h cap
  rw [List.length_map] at this
  exact ⟨hw, this⟩

end Go.Proofs.Ytjmfdpilmljppaa
