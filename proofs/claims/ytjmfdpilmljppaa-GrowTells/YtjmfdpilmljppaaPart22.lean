/-
  tidehallref13.once.
-/
import Derived.Test.YtjmfdpilmljppaaRefGrowD
import Derived.Test.YtjmfdpilmljppaaPart10
import Derived.Laws.AppendOwn
import Derived.Laws.AppendOwnNone
namespace Go.Proofs.Ytjmfdpilmljppaa
open Go Go.RowKit Go.Shelf Go.Maps

attribute [local go_sem] Oper.semAt_some ext_const
attribute [local go_sem high] eq_box

theorem back_is {r b : Int} (h : 0 ≤ b ∧ b < r) : (b - 0) % r = backS r b false ∧ (b - 1) % r = backS r b true := by
  unfold backS
  constructor
  · rw [Int.sub_zero]
    exact Int.emod_eq_of_lt h.1 h.2
  · by_cases e : b = 0
    · subst e
      rw [if_pos rfl, if_pos rfl, Int.zero_sub, ← Int.add_emod_right]
      exact (Int.emod_eq_of_lt (by omega) (by omega)).trans (by omega)
    · rw [if_pos rfl, if_neg e]
      exact Int.emod_eq_of_lt (by omega) (by omega)
theorem may_step {d0 d1 d2 : Int} (hd : mayD d0 d1 d2) {b : Bx} (hb : mayB d0 d1 d2 b) (k : Fin 3) (back : Bool) : mayBB d0 d1 d2 (stepB d0 d1 d2 b k back) = decide (sAt b k + 1 ≤ dimAt d0 d1 d2 k) := by
  by_cases h : sAt b k + 1 ≤ dimAt d0 d1 d2 k
  · rw [decide_eq_true h]
    exact (mayBB_iff _ _ _ _).2 (step_is hd hb h back).1
  · rw [decide_eq_false h]
    refine mayBB_no fun hm => h ?_
    have := (mayB_at hm k).1.2
    match k with
    | 0 => exact this
    | 1 => exact this
    | 2 => exact this
theorem stepR_is {d0 d1 d2 : Int} (hd : mayD d0 d1 d2) {b : Bx} (hb : mayB d0 d1 d2 b) (ws : List Nat) (k : Fin 3) (back : Bool) :
    stepR d0 d1 d2 ws b (stepB d0 d1 d2 b k back) = if tryG d0 d1 d2 (clearX d0 d1 d2 ws) b (k, back) = true then stepB d0 d1 d2 b k back else b := by
  unfold stepR tryG
  rw [may_step hd hb]
/-- What one step of the document comes to. -/
def stpE (d0 d1 d2 : Int) (ws : List Nat) (b : Bx) (i : Nat) : Bx := if tryG d0 d1 d2 (clearX d0 d1 d2 ws) b (stepsL.getD i (0, false)) = true then stepB d0 d1 d2 b (stepsL.getD i (0, false)).1 (stepsL.getD i (0, false)).2 else b
theorem rstep_calls {d0 d1 d2 : Int} {b : Bx} {v : Value} {ws : List Nat} (w : World) (hd : mayD d0 d1 d2) (hb : mayB d0 d1 d2 b) (hv : Wds w v ws) : ∀ (k m : Nat), k < 3 → m < 2 →
    Calls Try.prog 67 #[A3 d0 d1 d2, B6 b, v, I (k : Int), I (m : Int)] w fun e W' => e = .returned (B6 (stpE d0 d1 d2 ws b (2 * k + m))) ∧ Below w.heap.size w W'
  | 0, 0, _, _ => by
    have := rstep0_calls (bk := 0) w hd hb (by omega) hv
    rw [(back_is hb.1.2).1] at this
    exact this.mono fun e W' h => ⟨h.1.trans (congrArg (fun x => Ending.returned (B6 x)) (stepR_is hd hb ws 0 false)), h.2⟩
  | 0, 1, _, _ => by
    have := rstep0_calls (bk := 1) w hd hb (by omega) hv
    rw [(back_is hb.1.2).2] at this
    exact this.mono fun e W' h => ⟨h.1.trans (congrArg (fun x => Ending.returned (B6 x)) (stepR_is hd hb ws 0 true)), h.2⟩
  | 1, 0, _, _ => by
    have := rstep1_calls (bk := 0) w hd hb (by omega) hv
    rw [(back_is hb.2.1.2).1] at this
    exact this.mono fun e W' h => ⟨h.1.trans (congrArg (fun x => Ending.returned (B6 x)) (stepR_is hd hb ws 1 false)), h.2⟩
  | 1, 1, _, _ => by
    have := rstep1_calls (bk := 1) w hd hb (by omega) hv
    rw [(back_is hb.2.1.2).2] at this
    exact this.mono fun e W' h => ⟨h.1.trans (congrArg (fun x => Ending.returned (B6 x)) (stepR_is hd hb ws 1 true)), h.2⟩
  | 2, 0, _, _ => by
    have := rstep2_calls (bk := 0) w hd hb (by omega) hv
    rw [(back_is hb.2.2.2).1] at this
    exact this.mono fun e W' h => ⟨h.1.trans (congrArg (fun x => Ending.returned (B6 x)) (stepR_is hd hb ws 2 false)), h.2⟩
  | 2, 1, _, _ => by
    have := rstep2_calls (bk := 1) w hd hb (by omega) hv
    rw [(back_is hb.2.2.2).2] at this
    exact this.mono fun e W' h => ⟨h.1.trans (congrArg (fun x => Ending.returned (B6 x)) (stepR_is hd hb ws 2 true)), h.2⟩
  | k + 3, _, h, _ => absurd h (by omega)
  | _, m + 2, _, h => absurd h (by omega)

/-- The first step that does something. -/
def onceB (d0 d1 d2 : Int) (ws : List Nat) (b : Bx) : Bx := match nextG d0 d1 d2 (clearX d0 d1 d2 ws) b with
  | none => b
  | some s => stepB d0 d1 d2 b s.1 s.2
theorem step_ne {d0 d1 d2 : Int} (hd : mayD d0 d1 d2) {b : Bx} (hb : mayB d0 d1 d2 b) {q : Bx → Bool} {s : Sp} (h : tryG d0 d1 d2 q b s = true) : sameBx (stepB d0 d1 d2 b s.1 s.2) b = false := by
  unfold tryG at h
  rw [Bool.and_eq_true, decide_eq_true_eq] at h
  have hz := (step_is hd hb h.1 s.2).2.2.2
  rw [← Bool.not_eq_true, sameBx_iff]
  intro e
  rw [e] at hz
  omega

set_option maxRecDepth 100000 in
set_option maxHeartbeats 8000000 in
theorem ronce_calls {d0 d1 d2 : Int} {b : Bx} {v : Value} {ws : List Nat} (w : World) (hd : mayD d0 d1 d2) (hb : mayB d0 d1 d2 b) (hv : Wds w v ws) :
    Calls Try.prog 42 #[A3 d0 d1 d2, B6 b, v] w fun e W' => e = .returned (B6 (onceB d0 d1 d2 ws b)) ∧ Below w.heap.size w W' := by
  have HSt : Hid (∀ (k m : Nat) (w1 : World), k < 3 → m < 2 → Below w.heap.size w w1 → Calls Try.prog 67 #[A3 d0 d1 d2, B6 b, v, I (k : Int), I (m : Int)] w1 fun e W' => e = .returned (B6 (stpE d0 d1 d2 ws b (2 * k + m))) ∧ Below w1.heap.size w1 W') := fun k m w1 h1 h2 h3 => rstep_calls w1 hd hb (hv.later h3) k m h1 h2
  have HY : Hid (∀ i, i < 6 → (∀ j, j < i → tryG d0 d1 d2 (clearX d0 d1 d2 ws) b (stepsL.getD j (0, false)) = false) → tryG d0 d1 d2 (clearX d0 d1 d2 ws) b (stepsL.getD i (0, false)) = true → onceB d0 d1 d2 ws b = stpE d0 d1 d2 ws b i ∧ sameBx (stpE d0 d1 d2 ws b i) b = false) := fun i hi hno hy => by
    have hn := next_at hi hy hno
    unfold onceB stpE
    rw [hn, if_pos hy]
    exact ⟨rfl, step_ne hd hb hy⟩
  have HN : Hid (∀ i, tryG d0 d1 d2 (clearX d0 d1 d2 ws) b (stepsL.getD i (0, false)) = false → sameBx (stpE d0 d1 d2 ws b i) b = true) := fun i hn => by
    unfold stpE
    rw [if_neg (by rw [hn]; decide)]
    exact sameBx_self b
  have H0 : Hid ((∀ j, j < 6 → tryG d0 d1 d2 (clearX d0 d1 d2 ws) b (stepsL.getD j (0, false)) = false) → onceB d0 d1 d2 ws b = b) := fun h => by
    unfold onceB
    rw [next_no h]
  obtain ⟨ao, cap, rfl, _⟩ := hv.view
  clear hv hd hb
  generalize onceB d0 d1 d2 ws b = R at *
  generalize stpE d0 d1 d2 ws b = st at *
  generalize hT : (fun i => tryG d0 d1 d2 (clearX d0 d1 d2 ws) b (stepsL.getD i (0, false))) = tr at *
  have hT2 : ∀ i, tryG d0 d1 d2 (clearX d0 d1 d2 ws) b (stepsL.getD i (0, false)) = tr i := fun i => by rw [← hT]
  simp only [hT2] at HY HN H0
  clear hT hT2
  generalize ws.length = n at *
  obtain ⟨W, hW, hs, hB0, b0, b1, b2⟩ := three_start w #[I d0, I d1, I d2] (C6 b) #[I 0, I 0, I 0, I 0, I 0, I 0] 26 32 32
  have HW : Hid (((w.alloc (.cells #[I d0, I d1, I d2] 26)).alloc (.cells (C6 b) 32)).alloc (.cells #[I 0, I 0, I 0, I 0, I 0, I 0] 32) = W) := hW
  clear hW hs
  have HK : Hid (Blk W w.heap.size 26 #[I d0, I d1, I d2] ∧ Blk W (w.heap.size + 1) 32 (C6 b) ∧ Blk W (w.heap.size + 1 + 1) 32 #[I 0, I 0, I 0, I 0, I 0, I 0] ∧ Below w.heap.size w W) := ⟨b0, b1, b2, hB0⟩
  clear b0 b1 b2 hB0
  go_enter Try.func42, Try.ntmps42
  go_wp2_with fail
  rw [HW.out]
  clear HW
  go_loopw [7] (fun i wr => ∃ (k : Nat), k ≤ 3 ∧ i = .int .i64 k ∧ Hid (∀ j, j < 2 * k → tr j = false) ∧ Hid (Blk wr w.heap.size 26 #[I d0, I d1, I d2] ∧ Blk wr (w.heap.size + 1) 32 (C6 b) ∧ Blk wr (w.heap.size + 1 + 1) 32 #[I 0, I 0, I 0, I 0, I 0, I 0] ∧ Below w.heap.size w wr)) (fun i _ => 3 - (RowKit.intOf i).toNat)
  case atStart => exact ⟨0, by omega, rfl, fun j hj => absurd hj (by omega), HK.out⟩
  case round =>
    clear HK
    obtain ⟨k, hk, rfl, Hno, HK⟩ := hrel
    by_cases hlt : (k : Int) < 3
    · have hk2 : k < 3 := by omega
      go_wp2
      go_loopw [8] (fun i wr => ∃ (m : Nat), m ≤ 2 ∧ i = .int .i64 m ∧ Hid (∀ j, j < 2 * k + m → tr j = false) ∧ Hid (Blk wr w.heap.size 26 #[I d0, I d1, I d2] ∧ Blk wr (w.heap.size + 1) 32 (C6 b) ∧ Blk wr (w.heap.size + 1 + 1) 32 #[I 0, I 0, I 0, I 0, I 0, I 0] ∧ Below w.heap.size w wr)) (fun i _ => 2 - (RowKit.intOf i).toNat)
      case atStart => exact ⟨0, by omega, rfl, Hno.out, HK.out⟩
      case round =>
        clear HK Hno
        rename World => wr
        obtain ⟨m, hm, rfl, Hno, HK⟩ := hrel
        by_cases hltm : (m : Int) < 2
        · have hm2 : m < 2 := by omega
          obtain ⟨e0, e1, e2, ez⟩ := HK.out.1.three (Below.refl _ _)
          obtain ⟨g0, g1, g2, g3, g4, g5, gz⟩ := HK.out.2.1.sixX (Below.refl _ _)
          have HS := HSt.out k m wr hk2 hm2 HK.out.2.2.2
          have HYi := HY.out (2 * k + m) (by omega) Hno.out
          have HNi := HN.out (2 * k + m)
          obtain ⟨i, hi⟩ : ∃ i, i = 2 * k + m := ⟨_, rfl⟩
          rw [← hi] at HS HYi HNi Hno
          have HI : Hid (i = 2 * k + m) := hi
          have HYi : Hid (tr i = true → R = st i ∧ sameBx (st i) b = false) := HYi
          have HNi : Hid (tr i = false → sameBx (st i) b = true) := HNi
          have HS : Hid (Calls Try.prog 67 #[A3 d0 d1 d2, B6 b, .slice ao n cap, I (k : Int), I (m : Int)] wr fun e W' => e = .returned (B6 (st i)) ∧ Below wr.heap.size wr W') := HS
          clear hi
          generalize st i = c at *
          generalize hti : tr i = ti at *
          have Hti : Hid (tr i = ti) := hti
          clear hti
          go_wp2_with fail
          refine HS.out.mono ?_
          rintro e w1 ⟨rfl, hB⟩
          have hB2 : Below w1.heap.size w1 (w1.alloc (.cells (C6 c) 32)) := (Below.refl _ w1).alloc (Nat.le_refl _) _
          have kc : Blk (w1.alloc (.cells (C6 c) 32)) w1.heap.size 32 (C6 c) := Blk.new _ _ _
          have HK1 : Hid (Blk w1 w.heap.size 26 #[I d0, I d1, I d2] ∧ Blk w1 (w.heap.size + 1) 32 (C6 b) ∧ Blk w1 (w.heap.size + 1 + 1) 32 #[I 0, I 0, I 0, I 0, I 0, I 0] ∧ Below w.heap.size w w1) := ⟨HK.out.1.later hB, HK.out.2.1.later hB, HK.out.2.2.1.later hB, then_below HK.out.2.2.2 hB⟩
          have HK2 : Hid (Blk (w1.alloc (.cells (C6 c) 32)) w.heap.size 26 #[I d0, I d1, I d2] ∧ Blk (w1.alloc (.cells (C6 c) 32)) (w.heap.size + 1) 32 (C6 b) ∧ Blk (w1.alloc (.cells (C6 c) 32)) (w.heap.size + 1 + 1) 32 #[I 0, I 0, I 0, I 0, I 0, I 0] ∧ Below w.heap.size w (w1.alloc (.cells (C6 c) 32))) := ⟨HK1.out.1.later hB2, HK1.out.2.1.later hB2, HK1.out.2.2.1.later hB2, then_below HK1.out.2.2.2 hB2⟩
          clear hB hB2 HS e0 e1 e2 ez g0 g1 g2 g3 g4 g5 gz HK kc
          obtain ⟨g0, g1, g2, g3, g4, g5, gz⟩ := HK1.out.2.1.sixX (Below.refl _ _)
          obtain ⟨_, f0, f1, f2, f3, f4, f5⟩ := HK1.out.2.2.1.row6
          have yz := HK1.out.2.2.1.lt
          cases ti
          · have hs : sameBx ⟨c.x, c.y, c.z, c.a, c.b, c.c⟩ ⟨b.x, b.y, b.z, b.a, b.b, b.c⟩ = true := HNi.out rfl
            have Hno2 : Hid (∀ j, j < 2 * k + (m + 1) → tr j = false) := fun j hj => by
              by_cases e : j = i
              · rw [e]; exact Hti.out
              · exact Hno.out j (by have := HI.out; omega)
            clear HYi HNi f0 f1 f2 f3 f4 f5
            go_wp2
            exact ⟨⟨m + 1, by omega, by go_num, Hno2.out, HK2.out⟩, by simp [RowKit.intOf]; omega⟩
          · obtain ⟨hRc, hs0⟩ := HYi.out rfl
            have hs : sameBx ⟨c.x, c.y, c.z, c.a, c.b, c.c⟩ ⟨b.x, b.y, b.z, b.a, b.b, b.c⟩ = false := hs0
            have HRc : Hid (R = c) := hRc
            clear HYi HNi hRc hs0
            go_wp2
            obtain ⟨⟨m0, m1, m2, m3, m4, m5⟩, _⟩ := ((HK1.out.2.2.1.set6 (I c.x) (I c.y) (I c.z) (I c.a) (I c.b) (I c.c)).alloc (.cells (C6 c) 32)).row6
            have hX := then_alloc (below_set6 HK1.out.2.2.2 (show w.heap.size ≤ w.heap.size + 1 + 1 by omega) (I c.x) (I c.y) (I c.z) (I c.a) (I c.b) (I c.c)) (.cells (C6 c) 32)
            exact bodyPost_ret (v := B6 c) (by simp [results, Try.f42, go_sem, m0, m1, m2, m3, m4, m5]) rfl ⟨by rw [HRc.out], hX⟩
        · obtain rfl : m = 2 := by omega
          clear hltm
          go_wp2
          exact ⟨⟨k + 1, by omega, by go_num, fun j hj => Hno.out j (by omega), HK.out⟩, by simp [RowKit.intOf]; omega⟩
    · obtain rfl : k = 3 := by omega
      have HR : Hid (R = b) := H0.out fun j hj => Hno.out j (by omega)
      obtain ⟨g0, g1, g2, g3, g4, g5, gz⟩ := HK.out.2.1.sixX (Below.refl _ _)
      obtain ⟨_, f0, f1, f2, f3, f4, f5⟩ := HK.out.2.2.1.row6
      have yz := HK.out.2.2.1.lt
      clear hlt
      go_wp2
      obtain ⟨⟨m0, m1, m2, m3, m4, m5⟩, _⟩ := (HK.out.2.2.1.set6 (I b.x) (I b.y) (I b.z) (I b.a) (I b.b) (I b.c)).row6
      have hX := below_set6 HK.out.2.2.2 (show w.heap.size ≤ w.heap.size + 1 + 1 by omega) (I b.x) (I b.y) (I b.z) (I b.a) (I b.b) (I b.c)
      exact bodyPost_ret (v := B6 b) (by simp [results, Try.f42, go_sem, m0, m1, m2, m3, m4, m5]) rfl ⟨by rw [HR.out], hX⟩

end Go.Proofs.Ytjmfdpilmljppaa

/-
  tidehallref13.Grown.
-/
namespace Go.Proofs.Ytjmfdpilmljppaa
open Go Go.RowKit Go.Shelf Go.Maps

attribute [local go_sem] Oper.semAt_some ext_const
attribute [local go_sem high] eq_box

theorem clear_canon {d0 d1 d2 : Int} (hd : mayD d0 d1 d2) {b : Bx} (hb : mayB d0 d1 d2 b) (ws : List Nat) : clearX d0 d1 d2 ws (canonB d0 d1 d2 b) = clearX d0 d1 d2 ws b := by
  have hn := N_bd hd
  obtain ⟨h1, h2⟩ := canon_in hb
  rw [Bool.eq_iff_iff, clearX_iff, clearX_iff]
  exact ⟨fun h k hk hx => h k hk ((inB_iff hd hb (canon_may hb)).1 h1 k ⟨by omega, by omega⟩ hx), fun h k hk hx => h k hk ((inB_iff hd (canon_may hb) hb).1 h2 k ⟨by omega, by omega⟩ hx)⟩
theorem once_none {d0 d1 d2 : Int} {ws : List Nat} {b : Bx} (h : nextG d0 d1 d2 (clearX d0 d1 d2 ws) b = none) : onceB d0 d1 d2 ws b = b := by
  unfold onceB
  rw [h]
theorem once_some {d0 d1 d2 : Int} (hd : mayD d0 d1 d2) {ws : List Nat} {b : Bx} (hb : mayB d0 d1 d2 b) {s : Sp} (h : nextG d0 d1 d2 (clearX d0 d1 d2 ws) b = some s) :
    sameBx (onceB d0 d1 d2 ws b) b = false ∧ mayB d0 d1 d2 (onceB d0 d1 d2 ws b) ∧ szB (onceB d0 d1 d2 ws b) = szB b + 1 ∧ growG d0 d1 d2 (clearX d0 d1 d2 ws) (onceB d0 d1 d2 ws b) = growG d0 d1 d2 (clearX d0 d1 d2 ws) b := by
  have e : onceB d0 d1 d2 ws b = stepB d0 d1 d2 b s.1 s.2 := by
    unfold onceB
    rw [h]
  obtain ⟨h1, h2⟩ := next_try h
  obtain ⟨m1, _, _, z1⟩ := step_is hd hb h1 s.2
  rw [e]
  exact ⟨step_ne hd hb (q := clearX d0 d1 d2 ws) (s := s) (by unfold tryG; rw [decide_eq_true h1, h2]; rfl), m1, z1, (grow_some hd hb h).symm⟩

set_option maxRecDepth 100000 in
set_option maxHeartbeats 8000000 in
theorem rggrown_calls {v : Value} {ws : List Nat} (d0 d1 d2 : Int) (b : Bx) (w : World) (hv : Wds w v ws) :
    Calls Try.prog 20 #[A3 d0 d1 d2, B6 b, v] w fun e W' => e = .returned (.tuple #[B6 (wholeV d0 d1 d2 b ws), I (errW d0 d1 d2 b ws)]) ∧ Below w.heap.size w W' := by
  have HM : Hid (∀ w1, Below w.heap.size w w1 → Calls Try.prog 33 #[A3 d0 d1 d2, v] w1 fun e W' => e = .returned (.bool (decide (errG d0 d1 d2 ws = 0))) ∧ Below w1.heap.size w1 W') := fun w1 h1 => rgmay_calls d0 d1 d2 w1 (hv.later h1)
  have HMy : Hid (∀ w, Calls Try.prog 39 #[A3 d0 d1 d2, B6 b] w fun e W' => e = .returned (.bool (mayBB d0 d1 d2 b)) ∧ Below w.heap.size w W') := fun w => rmayb_calls d0 d1 d2 b w
  have HTo : Hid (∀ w, Calls Try.prog 41 #[A3 d0 d1 d2, B6 b] w fun e W' => e = .returned (B6 (canonB d0 d1 d2 b)) ∧ Below w.heap.size w W') := fun w => rtold_calls d0 d1 d2 b w
  have HDs : Hid (errG d0 d1 d2 ws = 0 → mayD d0 d1 d2) := fun hg => by
    rcases errG_cases d0 d1 d2 ws with ⟨h, _⟩ | ⟨_, h⟩ | ⟨_, _, h⟩
    · exact h
    · rw [hg] at h; cases h
    · rw [hg] at h; cases h
  have HCl : Hid (∀ w1, mayD d0 d1 d2 → mayBB d0 d1 d2 b = true → Below w.heap.size w w1 → Calls Try.prog 40 #[A3 d0 d1 d2, B6 b, v] w1 fun e W' => e = .returned (.bool (clearX d0 d1 d2 ws (canonB d0 d1 d2 b))) ∧ Below w1.heap.size w1 W') := fun w1 hd hm h1 => by
    rw [clear_canon hd ((mayBB_iff _ _ _ _).1 hm)]
    exact rgclear_calls w1 hd ((mayBB_iff _ _ _ _).1 hm) (hv.later h1)
  have HOn : Hid (∀ (c : Bx) (w1 : World), mayD d0 d1 d2 → mayB d0 d1 d2 c → Below w.heap.size w w1 → Calls Try.prog 42 #[A3 d0 d1 d2, B6 c, v] w1 fun e W' => e = .returned (B6 (onceB d0 d1 d2 ws c)) ∧ Below w1.heap.size w1 W') := fun c w1 hd hc h1 => ronce_calls w1 hd hc (hv.later h1)
  have HSome : Hid (∀ c : Bx, mayD d0 d1 d2 → mayB d0 d1 d2 c → (sameBx (onceB d0 d1 d2 ws c) c = true ∧ growG d0 d1 d2 (clearX d0 d1 d2 ws) c = c) ∨ (sameBx (onceB d0 d1 d2 ws c) c = false ∧ mayB d0 d1 d2 (onceB d0 d1 d2 ws c) ∧ szB (onceB d0 d1 d2 ws c) = szB c + 1 ∧ szB (onceB d0 d1 d2 ws c) ≤ 48 ∧ growG d0 d1 d2 (clearX d0 d1 d2 ws) (onceB d0 d1 d2 ws c) = growG d0 d1 d2 (clearX d0 d1 d2 ws) c)) := fun c hd hc => by
    rcases h : nextG d0 d1 d2 (clearX d0 d1 d2 ws) c with _ | s
    · exact .inl ⟨by rw [once_none h]; exact sameBx_self c, grow_none h⟩
    · obtain ⟨h1, h2, h3, h4⟩ := once_some hd hc h
      exact .inr ⟨h1, h2, h3, sz_bd hd h2, h4⟩
  have HW0 : Hid (mayBB d0 d1 d2 b = true → mayB d0 d1 d2 (canonB d0 d1 d2 b) ∧ szB (canonB d0 d1 d2 b) = szB b) := fun h => ⟨canon_may ((mayBB_iff _ _ _ _).1 h), canon_sz _ _ _ _⟩
  have HSz : Hid (mayD d0 d1 d2 → ∀ c, mayB d0 d1 d2 c → szB c ≤ 48) := fun hd c hc => sz_bd hd hc
  have HV : Hid (errW d0 d1 d2 b ws = (if errG d0 d1 d2 ws = 0 then (if mayBB d0 d1 d2 b then (if clearX d0 d1 d2 ws (canonB d0 d1 d2 b) then 0 else 80) else 2) else 8) ∧ wholeV d0 d1 d2 b ws = if errW d0 d1 d2 b ws = 0 then growG d0 d1 d2 (clearX d0 d1 d2 ws) (canonB d0 d1 d2 b) else zX) := ⟨rfl, rfl⟩
  obtain ⟨ao, cap, rfl, _⟩ := hv.view
  clear hv
  generalize wholeV d0 d1 d2 b ws = V at *
  generalize errW d0 d1 d2 b ws = er at *
  generalize clearX d0 d1 d2 ws (canonB d0 d1 d2 b) = cl at *
  generalize canonB d0 d1 d2 b = cb at *
  generalize mayBB d0 d1 d2 b = mb at *
  generalize growG d0 d1 d2 (clearX d0 d1 d2 ws) = gr at *
  generalize onceB d0 d1 d2 ws = oc at *
  generalize errG d0 d1 d2 ws = eg at *
  generalize ws.length = n at *
  obtain ⟨W, hW, hs, hB0, b0, b1, b2⟩ := three_start w #[I d0, I d1, I d2] (C6 b) #[I 0, I 0, I 0, I 0, I 0, I 0] 26 32 32
  have HW : Hid (((w.alloc (.cells #[I d0, I d1, I d2] 26)).alloc (.cells (C6 b) 32)).alloc (.cells #[I 0, I 0, I 0, I 0, I 0, I 0] 32) = W) := hW
  clear hW hs
  have HK : Hid (Blk W w.heap.size 26 #[I d0, I d1, I d2] ∧ Blk W (w.heap.size + 1) 32 (C6 b) ∧ Blk W (w.heap.size + 1 + 1) 32 #[I 0, I 0, I 0, I 0, I 0, I 0] ∧ Below w.heap.size w W) := ⟨b0, b1, b2, hB0⟩
  have HLt : Hid (w.heap.size ≤ w.heap.size + 1 + 1 ∧ w.heap.size ≤ w.heap.size + 1) := by constructor <;> omega
  obtain ⟨e0, e1, e2, ez⟩ := b0.three (Below.refl _ _)
  clear b0 b1 b2 hB0
  go_enter Try.func20, Try.ntmps20
  go_wp2_with fail
  rw [HW.out]
  refine (HM.out _ HK.out.2.2.2).mono ?_
  rintro e w1 ⟨rfl, hB⟩
  replace HK : Hid (Blk w1 w.heap.size 26 #[I d0, I d1, I d2] ∧ Blk w1 (w.heap.size + 1) 32 (C6 b) ∧ Blk w1 (w.heap.size + 1 + 1) 32 #[I 0, I 0, I 0, I 0, I 0, I 0] ∧ Below w.heap.size w w1) := ⟨HK.out.1.later hB, HK.out.2.1.later hB, HK.out.2.2.1.later hB, then_below HK.out.2.2.2 hB⟩
  clear hB e0 e1 e2 ez HW HM W
  by_cases hg : eg = 0
  · have hd : Hid (mayD d0 d1 d2) := HDs.out hg
    have HV : Hid (er = (if mb then (if cl then 0 else 80) else 2) ∧ V = if er = 0 then gr cb else zX) := by
      have := HV.out
      rw [if_pos hg] at this
      exact this
    rw [decide_eq_true hg]
    clear hg HDs
    obtain ⟨e0, e1, e2, ez⟩ := HK.out.1.three (Below.refl _ _)
    obtain ⟨g0, g1, g2, g3, g4, g5, gz⟩ := HK.out.2.1.sixX (Below.refl _ _)
    go_wp2_with fail
    refine (HMy.out _).mono ?_
    rintro e w2 ⟨rfl, hB⟩
    replace HK : Hid (Blk w2 w.heap.size 26 #[I d0, I d1, I d2] ∧ Blk w2 (w.heap.size + 1) 32 (C6 b) ∧ Blk w2 (w.heap.size + 1 + 1) 32 #[I 0, I 0, I 0, I 0, I 0, I 0] ∧ Below w.heap.size w w2) := ⟨HK.out.1.later hB, HK.out.2.1.later hB, HK.out.2.2.1.later hB, then_below HK.out.2.2.2 hB⟩
    clear hB e0 e1 e2 ez g0 g1 g2 g3 g4 g5 gz HMy w1
    cases mb
    · have HE : Hid (er = 2 ∧ V = zX) := by
        obtain ⟨h1, h2⟩ := HV.out
        simp at h1
        exact ⟨h1, by rw [h2, h1]; rfl⟩
      clear HV HW0 HCl
      obtain ⟨_, f0, f1, f2, f3, f4, f5⟩ := HK.out.2.2.1.row6
      have yz := HK.out.2.2.1.lt
      go_wp2
      obtain ⟨⟨m0, m1, m2, m3, m4, m5⟩, _⟩ := (HK.out.2.2.1.set6 (I 0) (I 0) (I 0) (I 0) (I 0) (I 0)).row6
      have hX := below_set6 HK.out.2.2.2 HLt.out.1 (I 0) (I 0) (I 0) (I 0) (I 0) (I 0)
      exact bodyPost_ret (v := .tuple #[B6 zX, I 2]) (by simp [results, Try.f20, go_sem, m0, m1, m2, m3, m4, m5]) rfl ⟨by rw [HE.out.1, HE.out.2], hX⟩
    · have HClx : Hid (∀ w1, Below w.heap.size w w1 → Calls Try.prog 40 #[A3 d0 d1 d2, B6 b, .slice ao n cap] w1 fun e W' => e = .returned (.bool cl) ∧ Below w1.heap.size w1 W') := fun w1 h1 => HCl.out w1 hd.out (by trivial) h1
      have HCb : Hid (mayB d0 d1 d2 cb ∧ szB cb = szB b) := HW0.out (by trivial)
      clear HW0 HCl
      obtain ⟨e0, e1, e2, ez⟩ := HK.out.1.three (Below.refl _ _)
      obtain ⟨g0, g1, g2, g3, g4, g5, gz⟩ := HK.out.2.1.sixX (Below.refl _ _)
      go_wp2_with fail
      refine (HClx.out _ HK.out.2.2.2).mono ?_
      rintro e w3 ⟨rfl, hB⟩
      replace HK : Hid (Blk w3 w.heap.size 26 #[I d0, I d1, I d2] ∧ Blk w3 (w.heap.size + 1) 32 (C6 b) ∧ Blk w3 (w.heap.size + 1 + 1) 32 #[I 0, I 0, I 0, I 0, I 0, I 0] ∧ Below w.heap.size w w3) := ⟨HK.out.1.later hB, HK.out.2.1.later hB, HK.out.2.2.1.later hB, then_below HK.out.2.2.2 hB⟩
      clear hB e0 e1 e2 ez g0 g1 g2 g3 g4 g5 gz HClx w2
      cases cl
      · have HE : Hid (er = 80 ∧ V = zX) := by
          obtain ⟨h1, h2⟩ := HV.out
          simp at h1
          exact ⟨h1, by rw [h2, h1]; rfl⟩
        clear HV
        obtain ⟨_, f0, f1, f2, f3, f4, f5⟩ := HK.out.2.2.1.row6
        have yz := HK.out.2.2.1.lt
        go_wp2
        obtain ⟨⟨m0, m1, m2, m3, m4, m5⟩, _⟩ := (HK.out.2.2.1.set6 (I 0) (I 0) (I 0) (I 0) (I 0) (I 0)).row6
        have hX := below_set6 HK.out.2.2.2 HLt.out.1 (I 0) (I 0) (I 0) (I 0) (I 0) (I 0)
        exact bodyPost_ret (v := .tuple #[B6 zX, I 80]) (by simp [results, Try.f20, go_sem, m0, m1, m2, m3, m4, m5]) rfl ⟨by rw [HE.out.1, HE.out.2], hX⟩
      · have HE : Hid (er = 0 ∧ V = gr cb) := by
          obtain ⟨h1, h2⟩ := HV.out
          simp at h1
          exact ⟨h1, by rw [h2, h1]; rfl⟩
        clear HV
        obtain ⟨e0, e1, e2, ez⟩ := HK.out.1.three (Below.refl _ _)
        obtain ⟨g0, g1, g2, g3, g4, g5, gz⟩ := HK.out.2.1.sixX (Below.refl _ _)
        go_wp2_with fail
        refine (HTo.out _).mono ?_
        rintro e w4 ⟨rfl, hB⟩
        replace HK : Hid (Blk w4 w.heap.size 26 #[I d0, I d1, I d2] ∧ Blk w4 (w.heap.size + 1) 32 (C6 b) ∧ Blk w4 (w.heap.size + 1 + 1) 32 #[I 0, I 0, I 0, I 0, I 0, I 0] ∧ Below w.heap.size w w4) := ⟨HK.out.1.later hB, HK.out.2.1.later hB, HK.out.2.2.1.later hB, then_below HK.out.2.2.2 hB⟩
        clear hB e0 e1 e2 ez g0 g1 g2 g3 g4 g5 gz HTo w3
        obtain ⟨e0, e1, e2, ez⟩ := HK.out.1.three (Below.refl _ _)
        obtain ⟨⟨g0, g1, g2, g3, g4, g5⟩, f0, f1, f2, f3, f4, f5⟩ := HK.out.2.1.row6
        have gz := HK.out.2.1.lt
        go_wp2_with fail
        have kd := HK.out.1.other6 (B' := w.heap.size + 1) (by omega) (I cb.x) (I cb.y) (I cb.z) (I cb.a) (I cb.b) (I cb.c)
        have kb := HK.out.2.1.set6 (I cb.x) (I cb.y) (I cb.z) (I cb.a) (I cb.b) (I cb.c)
        have kr := HK.out.2.2.1.other6 (B' := w.heap.size + 1) (by omega) (I cb.x) (I cb.y) (I cb.z) (I cb.a) (I cb.b) (I cb.c)
        have hX := below_set6 HK.out.2.2.2 HLt.out.2 (I cb.x) (I cb.y) (I cb.z) (I cb.a) (I cb.b) (I cb.c)
        refine (HOn.out cb _ hd.out HCb.out.1 hX).mono ?_
        rintro e w5 ⟨rfl, hB⟩
        have hB5 := then_below hX hB
        replace HK : Hid (Blk w5 w.heap.size 26 #[I d0, I d1, I d2] ∧ Blk w5 (w.heap.size + 1) 32 (C6 cb) ∧ Blk w5 (w.heap.size + 1 + 1) 32 #[I 0, I 0, I 0, I 0, I 0, I 0] ∧ Below w.heap.size w w5) := ⟨kd.later hB, kb.later hB, kr.later hB, hB5⟩
        clear hB hB5 kd kb kr hX e0 e1 e2 ez g0 g1 g2 g3 g4 g5 gz f0 f1 f2 f3 f4 f5 w4
        go_wp2_with fail
        have hBa : Below w5.heap.size w5 (w5.alloc (.cells (C6 (oc cb)) 32)) := (Below.refl _ w5).alloc (Nat.le_refl _) _
        have kn : Blk (w5.alloc (.cells (C6 (oc cb)) 32)) w5.heap.size 32 (C6 (oc cb)) := Blk.new _ _ _
        have hz5 := HK.out.2.2.1.lt
        replace HK : Hid (Blk (w5.alloc (.cells (C6 (oc cb)) 32)) w.heap.size 26 #[I d0, I d1, I d2] ∧ Blk (w5.alloc (.cells (C6 (oc cb)) 32)) (w.heap.size + 1) 32 (C6 cb) ∧ Blk (w5.alloc (.cells (C6 (oc cb)) 32)) (w.heap.size + 1 + 1) 32 #[I 0, I 0, I 0, I 0, I 0, I 0] ∧ Blk (w5.alloc (.cells (C6 (oc cb)) 32)) w5.heap.size 32 (C6 (oc cb)) ∧ Below w.heap.size w (w5.alloc (.cells (C6 (oc cb)) 32))) := ⟨HK.out.1.later hBa, HK.out.2.1.later hBa, HK.out.2.2.1.later hBa, kn, then_below HK.out.2.2.2 hBa⟩
        have H0 : Hid (48 - szB cb = ((48 - szB cb).toNat : Int)) := by
          have := HSz.out hd.out cb HCb.out.1
          show _ = _
          omega
        clear hBa kn
        go_loopg [8] (48 - szB cb).toNat (fun gn u wr => ∃ (g : Nat) (b' : Bx), u = .pointer (some ⟨g, 0, none⟩) ∧ w.heap.size + 1 + 1 < g ∧ Hid (48 - szB b' = (gn : Int) ∧ mayB d0 d1 d2 b' ∧ gr b' = V) ∧ Hid (Blk wr w.heap.size 26 #[I d0, I d1, I d2] ∧ Blk wr (w.heap.size + 1) 32 (C6 b') ∧ Blk wr (w.heap.size + 1 + 1) 32 #[I 0, I 0, I 0, I 0, I 0, I 0] ∧ Blk wr g 32 (C6 (oc b')) ∧ Below w.heap.size w wr))
        case atStart => exact ⟨_, cb, rfl, hz5, ⟨H0.out, HCb.out.1, HE.out.2.symm⟩, HK.out⟩
        case round =>
          clear HK H0 hz5
          obtain ⟨g, b', rfl, hgl, HB', HK⟩ := hrel
          obtain ⟨e0, e1, e2, ez⟩ := HK.out.1.three (Below.refl _ _)
          obtain ⟨⟨g0, g1, g2, g3, g4, g5⟩, f0, f1, f2, f3, f4, f5⟩ := HK.out.2.1.row6
          have gz := HK.out.2.1.lt
          obtain ⟨c0, c1, c2, c3, c4, c5, cz⟩ := HK.out.2.2.2.1.sixX (Below.refl _ _)
          rcases HSome.out b' hd.out HB'.out.2.1 with ⟨hs0, hgr⟩ | ⟨hs0, hmay, hsz, h48, hgr⟩
          · have HR : Hid (b' = V) := hgr.symm.trans HB'.out.2.2
            obtain ⟨C, hC⟩ : ∃ C, C = oc b' := ⟨_, rfl⟩
            rw [← hC] at hs0 c0 c1 c2 c3 c4 c5
            have hs : sameBx ⟨C.x, C.y, C.z, C.a, C.b, C.c⟩ ⟨b'.x, b'.y, b'.z, b'.a, b'.b, b'.c⟩ = true := hs0
            clear hs0 hgr hC f0 f1 f2 f3 f4 f5
            obtain ⟨_, f0, f1, f2, f3, f4, f5⟩ := HK.out.2.2.1.row6
            have yz := HK.out.2.2.1.lt
            go_wp2
            obtain ⟨⟨m0, m1, m2, m3, m4, m5⟩, _⟩ := (HK.out.2.2.1.set6 (I b'.x) (I b'.y) (I b'.z) (I b'.a) (I b'.b) (I b'.c)).row6
            have hX := below_set6 HK.out.2.2.2.2 HLt.out.1 (I b'.x) (I b'.y) (I b'.z) (I b'.a) (I b'.b) (I b'.c)
            exact bodyPost_ret (v := .tuple #[B6 b', I 0]) (by simp [results, Try.f20, go_sem, m0, m1, m2, m3, m4, m5]) rfl ⟨by rw [HE.out.1, HR.out], hX⟩
          · obtain ⟨C, hC⟩ : ∃ C, C = oc b' := ⟨_, rfl⟩
            rw [← hC] at hs0 c0 c1 c2 c3 c4 c5 hmay hsz h48 hgr
            have hs : sameBx ⟨C.x, C.y, C.z, C.a, C.b, C.c⟩ ⟨b'.x, b'.y, b'.z, b'.a, b'.b, b'.c⟩ = false := hs0
            have HG : Hid (mayB d0 d1 d2 C ∧ szB C = szB b' + 1 ∧ szB C ≤ 48 ∧ gr C = gr b') := ⟨hmay, hsz, h48, hgr⟩
            clear hs0 hgr hC hmay hsz h48
            go_wp2_with fail
            have kd := (HK.out.1.other6 (B' := w.heap.size + 1) (by omega) (I C.x) (I C.y) (I C.z) (I C.a) (I C.b) (I C.c)).alloc (.cells (C6 C) 32)
            have kb := (HK.out.2.1.set6 (I C.x) (I C.y) (I C.z) (I C.a) (I C.b) (I C.c)).alloc (.cells (C6 C) 32)
            have kr := (HK.out.2.2.1.other6 (B' := w.heap.size + 1) (by omega) (I C.x) (I C.y) (I C.z) (I C.a) (I C.b) (I C.c)).alloc (.cells (C6 C) 32)
            have kn := Blk.new ((((((wr.setCell ⟨w.heap.size + 1, 0, none⟩ (I C.x)).setCell ⟨w.heap.size + 1, 1, none⟩ (I C.y)).setCell ⟨w.heap.size + 1, 2, none⟩ (I C.z)).setCell ⟨w.heap.size + 1, 3, none⟩ (I C.a)).setCell ⟨w.heap.size + 1, 4, none⟩ (I C.b)).setCell ⟨w.heap.size + 1, 5, none⟩ (I C.c)) 32 (C6 C)
            rw [show ((((((wr.setCell ⟨w.heap.size + 1, 0, none⟩ (I C.x)).setCell ⟨w.heap.size + 1, 1, none⟩ (I C.y)).setCell ⟨w.heap.size + 1, 2, none⟩ (I C.z)).setCell ⟨w.heap.size + 1, 3, none⟩ (I C.a)).setCell ⟨w.heap.size + 1, 4, none⟩ (I C.b)).setCell ⟨w.heap.size + 1, 5, none⟩ (I C.c)).heap.size = wr.heap.size by simp] at kn
            have hX := then_alloc (below_set6 HK.out.2.2.2.2 HLt.out.2 (I C.x) (I C.y) (I C.z) (I C.a) (I C.b) (I C.c)) (.cells (C6 C) 32)
            have hgN : w.heap.size + 1 + 1 < wr.heap.size := HK.out.2.2.1.lt
            refine (HOn.out C _ hd.out HG.out.1 hX).mono ?_
            rintro e w6 ⟨rfl, hB⟩
            have hB6 := then_below hX hB
            replace kd := kd.later hB
            replace kb := kb.later hB
            replace kr := kr.later hB
            replace kn := kn.later hB
            clear hB hX HK e0 e1 e2 ez g0 g1 g2 g3 g4 g5 gz f0 f1 f2 f3 f4 f5 c0 c1 c2 c3 c4 c5 cz hgl
            generalize wr.heap.size = gN at *
            obtain ⟨⟨g0, g1, g2, g3, g4, g5⟩, f0, f1, f2, f3, f4, f5⟩ := kn.row6
            have gz := kn.lt
            have HK2 : Hid (Blk w6 w.heap.size 26 #[I d0, I d1, I d2] ∧ Blk w6 (w.heap.size + 1) 32 (C6 C) ∧ Blk w6 (w.heap.size + 1 + 1) 32 #[I 0, I 0, I 0, I 0, I 0, I 0] ∧ Blk w6 gN 32 (C6 C) ∧ Below w.heap.size w w6) := ⟨kd, kb, kr, kn, hB6⟩
            have HN2 : Hid (48 - szB C = ((gk - 1 : Nat) : Int) ∧ mayB d0 d1 d2 C ∧ gr C = V ∧ gk - 1 < gk) := by
              obtain ⟨hz, _, hv⟩ := HB'.out
              obtain ⟨h1, h2, h3, h4⟩ := HG.out
              exact ⟨by omega, h1, h4.trans hv, by omega⟩
            clear kd kb kr kn hB6 HG HB' hs
            go_wp2
            generalize hC2 : oc C = C2
            have HK3 : Hid (Blk ((((((w6.setCell ⟨gN, 0, none⟩ (I C2.x)).setCell ⟨gN, 1, none⟩ (I C2.y)).setCell ⟨gN, 2, none⟩ (I C2.z)).setCell ⟨gN, 3, none⟩ (I C2.a)).setCell ⟨gN, 4, none⟩ (I C2.b)).setCell ⟨gN, 5, none⟩ (I C2.c)) w.heap.size 26 #[I d0, I d1, I d2] ∧ Blk ((((((w6.setCell ⟨gN, 0, none⟩ (I C2.x)).setCell ⟨gN, 1, none⟩ (I C2.y)).setCell ⟨gN, 2, none⟩ (I C2.z)).setCell ⟨gN, 3, none⟩ (I C2.a)).setCell ⟨gN, 4, none⟩ (I C2.b)).setCell ⟨gN, 5, none⟩ (I C2.c)) (w.heap.size + 1) 32 (C6 C) ∧ Blk ((((((w6.setCell ⟨gN, 0, none⟩ (I C2.x)).setCell ⟨gN, 1, none⟩ (I C2.y)).setCell ⟨gN, 2, none⟩ (I C2.z)).setCell ⟨gN, 3, none⟩ (I C2.a)).setCell ⟨gN, 4, none⟩ (I C2.b)).setCell ⟨gN, 5, none⟩ (I C2.c)) (w.heap.size + 1 + 1) 32 #[I 0, I 0, I 0, I 0, I 0, I 0] ∧ Blk ((((((w6.setCell ⟨gN, 0, none⟩ (I C2.x)).setCell ⟨gN, 1, none⟩ (I C2.y)).setCell ⟨gN, 2, none⟩ (I C2.z)).setCell ⟨gN, 3, none⟩ (I C2.a)).setCell ⟨gN, 4, none⟩ (I C2.b)).setCell ⟨gN, 5, none⟩ (I C2.c)) gN 32 (C6 (oc C)) ∧ Below w.heap.size w ((((((w6.setCell ⟨gN, 0, none⟩ (I C2.x)).setCell ⟨gN, 1, none⟩ (I C2.y)).setCell ⟨gN, 2, none⟩ (I C2.z)).setCell ⟨gN, 3, none⟩ (I C2.a)).setCell ⟨gN, 4, none⟩ (I C2.b)).setCell ⟨gN, 5, none⟩ (I C2.c))) :=
              ⟨HK2.out.1.other6 (by omega) _ _ _ _ _ _, HK2.out.2.1.other6 (by omega) _ _ _ _ _ _, HK2.out.2.2.1.other6 (by omega) _ _ _ _ _ _, by rw [hC2]; exact HK2.out.2.2.2.1.set6 (I C2.x) (I C2.y) (I C2.z) (I C2.a) (I C2.b) (I C2.c), below_set6 HK2.out.2.2.2.2 (show w.heap.size ≤ gN by omega) _ _ _ _ _ _⟩
            go_roundg (gk - 1)
            case measure => exact HN2.out.2.2.2
            case rel => exact ⟨gN, C, rfl, hgN, ⟨HN2.out.1, HN2.out.2.1, HN2.out.2.2.1⟩, HK3.out⟩
  · have HE : Hid (er = 8 ∧ V = zX) := by
      obtain ⟨h1, h2⟩ := HV.out
      rw [if_neg hg] at h1
      exact ⟨h1, by rw [h2, h1]; rfl⟩
    rw [decide_eq_false hg]
    clear hg HDs HV
    obtain ⟨_, f0, f1, f2, f3, f4, f5⟩ := HK.out.2.2.1.row6
    have yz := HK.out.2.2.1.lt
    go_wp2
    obtain ⟨⟨m0, m1, m2, m3, m4, m5⟩, _⟩ := (HK.out.2.2.1.set6 (I 0) (I 0) (I 0) (I 0) (I 0) (I 0)).row6
    have hX := below_set6 HK.out.2.2.2 HLt.out.1 (I 0) (I 0) (I 0) (I 0) (I 0) (I 0)
    exact bodyPost_ret (v := .tuple #[B6 zX, I 8]) (by simp [results, Try.f20, go_sem, m0, m1, m2, m3, m4, m5]) rfl ⟨by rw [HE.out.1, HE.out.2], hX⟩

end Go.Proofs.Ytjmfdpilmljppaa

/-
  A set among the arguments: as it came in, and a copy of it.
-/
namespace Go.Proofs.Ytjmfdpilmljppaa
open Go Go.RowKit Go.Shelf

/-- A row of words that came in. -/
def ArgW (W : World) (v : Value) (ws : List Nat) : Prop := Wds W v ws ∧ (v = .slice none 0 0 ∨ ∃ ad cap, v = .slice (some ad) ws.length cap)
def ArgI (W : World) (v : Value) (xs : List Int) : Prop := Its W v xs ∧ (v = .slice none 0 0 ∨ ∃ ad cap, v = .slice (some ad) xs.length cap)

theorem owns_wds {W : World} {base : Nat} {v : Value} {ws : List Nat} (hw : ∀ x ∈ ws, x < 18446744073709551616) (h : W.ownsRow base 28 1 v ws.length (ws.map U)) : Wds W v ws := by
  obtain ⟨h1, h2⟩ := h
  refine ⟨hw, ?_⟩
  rcases h2 with ⟨rfl, hn⟩ | ⟨g, cap, cur, rfl, hg, hh, hc, hc2, hs, ht⟩
  · have : ws = [] := List.length_eq_zero_iff.1 hn
    subst this
    exact Sl.nil W
  · refine ⟨_, cap, by simp, fun k hk => ⟨g, 0, rfl, (Array.getElem?_eq_some_iff.1 hh).1, ?_⟩⟩
    have hb : Blk W g 28 cur := hh
    rw [Nat.zero_add, hb.cell k]
    have := congrArg (fun l => l[k]?) ht
    simp only [Nat.mul_one] at this
    rw [List.length_map] at hk
    rw [List.getElem?_take_of_lt hk, Array.getElem?_toList] at this
    exact this

/-- 'own = append(own, s...)', own nil. -/
theorem wpList_copy {ops : Array Oper} {rest : List Oper} {o : Oper} {a : Act} {Q : Exit → Act → World → Prop} {W : World} {v : Value} {ws : List Nat} (hgd : o.guard = none) (s x : Operand)
    (ho : o.op = .call { callee := .builtin .append, args := #[s, x], argTypes := #[30, 30] }) (hs : a.eval s = .slice none 0 0) (hx : a.eval x = v)
    (hA : ArgW W v ws) (hl : ws.length ≤ 1000)
    (h : ∀ v' w', Wds w' v' ws → Below W.heap.size W w' → wpList Try.prog ops Q rest (a.put o.dst v') w') : wpList Try.prog ops Q (o :: rest) a W := by
  obtain ⟨i0, hi, hz0, hz1, hz2⟩ := info_parts info_u64
  obtain ⟨hW, rfl | ⟨ad, cap, rfl⟩⟩ := hA
  · have e : ws = [] := by
      obtain ⟨ao, c, e, _⟩ := hW.view
      simp only [Value.slice.injEq] at e
      exact List.length_eq_zero_iff.1 e.2.1.symm
    subst e
    exact wpList_append_own_none hgd s x 30 ho W.heap.size 28 i0 1 Try.underlying30 hi (.slice none 0 0) 0 [] hs (World.ownsRow_nil _ _ _ _) hx (h _ _ (Wds.nil W) (Below.refl _ _))
  · refine wpList_append_own (w := W) hgd s x 30 ho W.heap.size 28 i0 (.int .u64 0) 1 8 Try.underlying30 hi hz0 hz1 hz2 rfl (by decide) (.slice none 0 0) 0 [] hs (World.ownsRow_nil _ _ _ _) ad ws.length cap (ws.map U) hx (by simp) ?_ ?_ ?_ ?_ ?_ ?_
    · intro j u hj
      obtain ⟨ao, c, e, hv⟩ := hW.view
      simp only [Value.slice.injEq] at e
      obtain ⟨rfl, -, -⟩ := e
      have hjl : j < ws.length := by
        have := (List.getElem?_eq_some_iff.1 hj).1
        simpa using this
      obtain ⟨g, off, e, hg, hc⟩ := hv j hjl
      simp only [Option.some.injEq] at e
      subst e
      have : (⟨g, off, none⟩ : Addr).add j = ⟨g, off + j, none⟩ := by
        unfold Addr.add
        split
        · rename_i h0; subst h0; rfl
        · rfl
      rw [this, hc, ← hj]
      simp [hjl]
    · intro u hu
      obtain ⟨y, _, rfl⟩ := List.mem_map.1 hu
      rfl
    · unfold maxLen; omega
    · omega
    · omega
    · intro v' w1 hown' hgrow _
      refine h v' w1 (owns_wds hW.1 (by simpa using hown')) ?_
      exact (Below.refl _ W).grown hgrow (Nat.le_refl _) (fun k hk => by cases hk)

end Go.Proofs.Ytjmfdpilmljppaa
