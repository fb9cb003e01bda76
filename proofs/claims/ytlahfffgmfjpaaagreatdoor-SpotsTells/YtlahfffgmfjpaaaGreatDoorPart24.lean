/-
  The order of places: by the midplane at their base; slices.insertionSortCmpFunc at places.
-/
import Derived.Test.YtlahfffgmfjpaaaGreatDoorPart22
import Derived.Test.YtlahfffgmfjpaaaGreatDoorPart23
import Derived.Test.YtlahfffgmfjpaaaGreatDoorPart4
import Derived.Sort.WalkA
namespace Go.Proofs.YtlahfffgmfjpaaaGreatDoor
open Go Go.RowKit Go.Shelf Go.Sort Go.Lib

attribute [local go_sem] Oper.semAt_some ext_const
attribute [local simp high] size_pl
attribute [local go_sem high] size_pl

/-- The number of the midplane at a place's base, 0 where it is none. -/
def inDB (d0 d1 d2 x y z : Int) : Bool := (decide (0 ≤ x) && decide (x < d0)) && ((decide (0 ≤ y) && decide (y < d1)) && (decide (0 ≤ z) && decide (z < d2)))
theorem inDB_iff {d0 d1 d2 x y z : Int} : inDB d0 d1 d2 x y z = true ↔ inD d0 d1 d2 x y z := by simp [inDB, inD]
def atV (d0 d1 d2 : Int) (p : Pl) : Int := if inDB d0 d1 d2 p.1.x p.1.y p.1.z then atP d0 d1 p else 0
theorem at_any {d0 d1 d2 : Int} (b : Bx) (p q r : Bool) (w : World) (hm : mayD d0 d1 d2) :
    Calls Tryz.prog 48 #[A3 d0 d1 d2, A3 b.x b.y b.z] w fun e W' => ∃ er, e = .returned (.tuple #[I (atV d0 d1 d2 (b, p, q, r)), I er]) ∧ Below w.heap.size w W' := by
  by_cases h : inD d0 d1 d2 b.x b.y b.z
  · refine (at_yes w hm h).mono ?_
    rintro e W' ⟨rfl, hB⟩
    exact ⟨0, by rw [atV, if_pos (inDB_iff.2 h)]; rfl, hB⟩
  · refine (at_no w hm h).mono ?_
    rintro e W' ⟨rfl, hB⟩
    exact ⟨2, by rw [atV, if_neg (fun e => h (inDB_iff.1 e))], hB⟩
theorem cmpI_lt (x y : Int) : cmpI x y < 0 ↔ x < y := by
  rcases cmpI_cases x y with ⟨h, e⟩ | ⟨h, e⟩ | ⟨h, e⟩ <;> rw [e] <;> omega

set_option maxRecDepth 100000 in
set_option maxHeartbeats 4000000 in
/-- The closure: which of two comes first. -/
theorem risec_calls {d0 d1 d2 : Int} (hm : mayD d0 d1 d2) {Bd : Nat} (x y : Pl) (w : World) (hB : Blk w Bd 23 #[I d0, I d1, I d2]) :
    Calls Tryz.prog 47 #[PV x, PV y, .pointer (some ⟨Bd, 0, none⟩)] w fun e W' => e = .returned (I (cmpI (atV d0 d1 d2 x) (atV d0 d1 d2 y))) ∧ Below w.heap.size w W' := by
  obtain ⟨b, p, q, r⟩ := x
  obtain ⟨b', p', q', r'⟩ := y
  have h1 : Hid (∀ w, Calls Tryz.prog 48 #[A3 d0 d1 d2, A3 b.x b.y b.z] w fun e W' => ∃ er, e = .returned (.tuple #[I (atV d0 d1 d2 (b, p, q, r)), I er]) ∧ Below w.heap.size w W') := fun w => at_any b p q r w hm
  have h2 : Hid (∀ w, Calls Tryz.prog 48 #[A3 d0 d1 d2, A3 b'.x b'.y b'.z] w fun e W' => ∃ er, e = .returned (.tuple #[I (atV d0 d1 d2 (b', p', q', r')), I er]) ∧ Below w.heap.size w W') := fun w => at_any b' p' q' r' w hm
  have h3 := fun w => cmp_calls (atV d0 d1 d2 (b, p, q, r)) (atV d0 d1 d2 (b', p', q', r')) w
  generalize atV d0 d1 d2 (b, p, q, r) = u at *
  generalize atV d0 d1 d2 (b', p', q', r') = v at *
  generalize cmpI u v = c at *
  obtain ⟨W, hW, hBW, k1, k2⟩ := two_start w (C9 b p q r) (C9 b' p' q' r') 32 32
  have HW : Hid ((w.alloc (.cells (C9 b p q r) 32)).alloc (.cells (C9 b' p' q' r') 32) = W) := hW
  have k0 := hB.later hBW
  clear hW hm
  obtain ⟨c0, c1, c2, hz0⟩ := hB.three (Below.refl _ _)
  obtain ⟨⟨x0, x1, x2⟩, ⟨x3, x4, x5⟩, ⟨x6, x7, x8⟩, hz1⟩ := k1.nine (Below.refl _ _)
  go_enter Tryz.func47, Tryz.ntmps47
  go_wp2_with fail
  rw [HW.out]
  refine (h1.out _).mono ?_
  rintro e w1 ⟨e1, rfl, hT1⟩
  clear c0 c1 c2 hz0
  obtain ⟨c0, c1, c2, hz0⟩ := k0.three hT1
  obtain ⟨⟨y0, y1, y2⟩, ⟨y3, y4, y5⟩, ⟨y6, y7, y8⟩, hz2⟩ := k2.nine hT1
  go_wp2_with fail
  refine (h2.out _).mono ?_
  rintro e w2 ⟨e2, rfl, hT2⟩
  go_wp2_with fail
  refine (h3 _).mono ?_
  rintro e w3 ⟨rfl, rfl⟩
  go_wp2
  go_ret
  exact ⟨rfl, then_below hBW (then_below hT1 hT2)⟩

/-- What a comparison of two places asks. -/
abbrev ltV (d0 d1 d2 : Int) (x y : Pl) : Bool := decide (atV d0 d1 d2 x < atV d0 d1 d2 y)
theorem ltV_iff {d0 d1 d2 : Int} (x y : Pl) : ltV d0 d1 d2 x y = true ↔ atV d0 d1 d2 x < atV d0 d1 d2 y := by simp
theorem swo_ltV (d0 d1 d2 : Int) : SWO (ltV d0 d1 d2) where
  irrefl a := by simp
  trans a b c h1 h2 := by simp at *; omega
  ntrans a b c h1 h2 := by simp at *; omega

/-- The comparison, wherever the sort has come to. -/
def CmpP (d0 d1 d2 : Int) (Bd : Nat) : Prop := ∀ (x y : Pl) (w : World), Blk w Bd 23 #[I d0, I d1, I d2] → Calls Tryz.prog 47 #[.agg (cellsP x).toArray, .agg (cellsP y).toArray, .pointer (some ⟨Bd, 0, none⟩)] w fun e W' => e = .returned (I (cmpI (atV d0 d1 d2 x) (atV d0 d1 d2 y))) ∧ Below w.heap.size w W'
theorem cmpP_of {d0 d1 d2 : Int} (hm : mayD d0 d1 d2) (Bd : Nat) : CmpP d0 d1 d2 Bd := fun x y w hB => by
  rw [cellsP_val, cellsP_val]
  exact risec_calls hm x y w hB
abbrev fvR (Bd : Nat) : Value := .func (.func 47) #[] #[.pointer (some ⟨Bd, 0, none⟩)]
theorem Sv.ldx [Inhabited Pl] {base g cap Bd : Nat} {cs : Array Value} {w0 W : World} {dk : Array Pl} (S : Sv base g cap Bd cs w0 dk W) {i : Nat} (hi : i < dk.size) (X : Ext W) : Sem.run Tryz.prog (loadCellsFrom ⟨g, i * nineK, none⟩ 0 nineK #[]) X.wd = .ok (cellsP dk[i]!).toArray X.wd := by
  have S1 := S.later X.le
  have := (SWK.start S1.holds).load S1.row rfl Tryz.prog i hi
  rwa [Nat.zero_add] at this

set_option maxHeartbeats 8000000 in
set_option maxRecDepth 1000000 in
/-- slices.insertionSortCmpFunc at places. -/
theorem insS_calls [Inhabited Pl] {base g cap Bd : Nat} {d0 d1 d2 : Int} {w0 W : World} {dk : Array Pl} (S : Sv base g cap Bd #[I d0, I d1, I d2] w0 dk W) (hc : CmpP d0 d1 d2 Bd) (hsz : dk.size ≤ 100000) {a b : Nat} (hab : a ≤ b) (hb : b ≤ dk.size) :
    Calls Tryz.prog 99 #[.slice (some ⟨g, 0, none⟩) dk.size cap, .int .i64 a, .int .i64 b, fvR Bd] W fun e W' => e = .returned (.tuple #[]) ∧ Sv base g cap Bd #[I d0, I d1, I d2] w0 (insertionSort (ltV d0 d1 d2) dk a b) W' := by
  have hmx : Tryz.prog.follows .mixedOrders = true := by kernel_rfl
  have S0 : Aside (Sv base g cap Bd #[I d0, I d1, I d2] w0 dk W) := S
  have HC : Aside (CmpP d0 d1 d2 Bd) := hc
  clear S hc
  go_enter Tryz.func99, Tryz.ntmps99
  go_wp2
  go_loopg [8] (b - a) (fun g1 vi wr => ∃ (i : Nat) (d : Array Pl), vi = .int .i64 i ∧ a < i ∧ i ≤ b + 1 ∧ b + 1 - i ≤ g1 + 1 ∧ d.size = dk.size ∧ Aside (Sv base g cap Bd #[I d0, I d1, I d2] w0 d wr) ∧ Hid (insOuter (ltV d0 d1 d2) a b i d = insOuter (ltV d0 d1 d2) a b (a + 1) dk))
  case atStart => exact ⟨a + 1, dk, by go_num, by omega, by omega, by omega, rfl, S0, rfl⟩
  case round =>
    clear S0
    obtain ⟨i, d, rfl, hai, hib, hg1, hds, S1, HO⟩ := hrel
    by_cases hlt : i < b
    · have hltz : (i : Int) < (b : Int) := by omega
      go_wp2
      go_loopg [9] i (fun g2 vj wr2 => ∃ (j : Nat) (e : Array Pl), vj = .int .i64 j ∧ a ≤ j ∧ j ≤ i ∧ j ≤ g2 ∧ e.size = dk.size ∧ Aside (Sv base g cap Bd #[I d0, I d1, I d2] w0 e wr2) ∧ Hid (insInner (ltV d0 d1 d2) a j e = insInner (ltV d0 d1 d2) a i d))
      case atStart => exact ⟨i, d, rfl, by omega, Nat.le_refl _, Nat.le_refl _, hds, S1, rfl⟩
      case round =>
        clear S1
        obtain ⟨j, e, rfl, haj, hji, hg2, hes, S2, HI⟩ := hrel
        have OUT : Aside ((j ≤ a ∨ ltV d0 d1 d2 e[j]! e[j - 1]! = false) → Hid (insOuter (ltV d0 d1 d2) a b (i + 1) e = insOuter (ltV d0 d1 d2) a b (a + 1) dk)) := fun hs => by
          show _ = _
          rw [← HO.out, insOuter_go _ _ _ _ _ hlt, ← HI.out, insInner_stop _ _ _ _ hs]
        by_cases hja : a < j
        · have hjaz : (a : Int) < (j : Int) := by omega
          obtain ⟨jp, rfl⟩ : ∃ jp, j = jp + 1 := ⟨j - 1, by omega⟩
          obtain ⟨x, hx⟩ : ∃ x, e[jp + 1]! = x := ⟨_, rfl⟩
          obtain ⟨y, hy⟩ : ∃ y, e[jp]! = y := ⟨_, rfl⟩
          have hwp : IntKind.i64.wrap (jp : Int) = (jp : Int) := by rw [IntKind.wrap_i64]; omega
          have jz : (jp : Int) + 1 < (dk.size : Int) := by omega
          have jz1 : (jp : Int) < (dk.size : Int) := by omega
          have hjaz' : (a : Int) < (jp : Int) + 1 := by omega
          have p0 : (0 : Int) ≤ (jp : Int) + 1 := by omega
          have e0 : ((jp : Int) + 1).toNat = jp + 1 := by omega
          have l1 := S2.out.ldx (i := jp + 1) (by omega)
          have l2 := S2.out.ldx (i := jp) (by omega)
          rw [hx] at l1
          rw [hy] at l2
          have hcall : ∀ X : Ext wr, Calls Tryz.prog 47 #[.agg (cellsP x).toArray, .agg (cellsP y).toArray, .pointer (some ⟨Bd, 0, none⟩)] X.wd fun e W' => e = .returned (I (cmpI (atV d0 d1 d2 x) (atV d0 d1 d2 y))) ∧ Below X.wd.heap.size X.wd W' := fun X => HC.out x y _ (S2.out.box.later X.le)
          have HL := cmpI_lt (atV d0 d1 d2 x) (atV d0 d1 d2 y)
          generalize cmpI (atV d0 d1 d2 x) (atV d0 d1 d2 y) = c at *
          have HX : Hid (e[jp + 1]! = x) := hx
          have HY : Hid (e[jp]! = y) := hy
          have HLL : Hid (c < 0 ↔ atV d0 d1 d2 x < atV d0 d1 d2 y) := HL
          clear hx hy HL
          generalize cellsP x = cX at l1 hcall
          generalize cellsP y = cY at l2 hcall
          by_cases hlv : c < 0
          · go_wp2_with fail
            refine wp_region_look hmx (by kernel_rfl) ?_
            repeat (go_big_quiet_step ((go_at_call 47; exact calls_ext (hcall _))))
            refine wpQuiet_nil ?_
            intro X
            have S3 := S2.out.later X.le
            clear l1 l2 hcall
            generalize X.wd = w2 at S3 ⊢
            have S4 : Aside (Sv base g cap Bd #[I d0, I d1, I d2] w0 (swp e (jp + 1) jp) ((w2.drew.setCells g ((jp + 1) * nineK) (cellsP e[jp]!)).setCells g (jp * nineK) (cellsP e[jp + 1]!))) := S3.swapped (by omega) (by omega)
            have l1 := S3.ld (i := jp + 1) (by omega)
            have l2 := S3.ld (i := jp) (by omega)
            have s1 := S3.st1 (i := jp + 1) (by omega) e[jp]!
            have s2 := S3.st2 (i := jp + 1) (j := jp) (by omega) (by omega) e[jp]! e[jp + 1]!
            have n1 := cellsP_nine e[jp + 1]!
            have n2 := cellsP_nine e[jp]!
            have HQ : Hid (insInner (ltV d0 d1 d2) a jp (swp e (jp + 1) jp) = insInner (ltV d0 d1 d2) a i d) := by
              have := insInner_go (ltV d0 d1 d2) a (jp + 1) e hja (by simp only [Nat.add_sub_cancel]; rw [HX.out, HY.out]; exact (ltV_iff _ _).2 (HLL.out.1 hlv))
              simp only [Nat.add_sub_cancel] at this
              show _ = _
              rw [← HI.out, this]
            have hsw : (swp e (jp + 1) jp).size = dk.size := (swp_size _ _ _).trans hes
            generalize swp e (jp + 1) jp = e2 at S4 HQ hsw
            clear S3 S2 HI HO OUT HX HY HLL
            generalize cellsP e[jp + 1]! = cI at S4 l1 s2 n1
            generalize cellsP e[jp]! = cJ at S4 l2 s1 s2 n2
            go_wp2_with fail
            go_big_region_o
            clear l1 l2 s1 s2
            generalize (w2.drew.setCells g ((jp + 1) * nineK) cJ).setCells g (jp * nineK) cI = w3 at S4 ⊢
            go_wp2
            go_roundg jp
            case measure => omega
            case rel => exact ⟨jp, e2, by first | rfl | go_num | (congr 1; omega), by omega, by omega, Nat.le_refl _, hsw, S4, HQ⟩
          · go_wp2_with fail
            refine wp_region_look hmx (by kernel_rfl) ?_
            repeat (go_big_quiet_step ((go_at_call 47; exact calls_ext (hcall _))))
            refine wpQuiet_nil ?_
            intro X
            have S3 : Aside (Sv base g cap Bd #[I d0, I d1, I d2] w0 e X.wd) := S2.out.later X.le
            have HQ : Hid (insOuter (ltV d0 d1 d2) a b (i + 1) e = insOuter (ltV d0 d1 d2) a b (a + 1) dk) := OUT.out (Or.inr (by
              simp only [Nat.add_sub_cancel]
              rw [HX.out, HY.out]
              exact decide_eq_false (fun h => absurd (HLL.out.2 h) (by omega))))
            clear l1 l2 hcall S2 OUT
            generalize X.wd = w2 at S3 ⊢
            go_wp2
            go_roundg (b - (i + 1))
            case measure => omega
            case rel => exact ⟨i + 1, e, by go_num, by omega, by omega, by omega, hes, S3, HQ⟩
        · have hjaz : decide ((j : Int) > (a : Int)) = false := decide_eq_false (by omega)
          have hjaz' : ¬ (a : Int) < (j : Int) := by omega
          have HQ : Hid (insOuter (ltV d0 d1 d2) a b (i + 1) e = insOuter (ltV d0 d1 d2) a b (a + 1) dk) := OUT.out (Or.inl (by omega))
          clear OUT
          go_wp2_with fail
          refine wp_region_look hmx (by kernel_rfl) ?_
          repeat (go_big_quiet_step (fail))
          refine wpQuiet_nil ?_
          intro X
          have S3 : Aside (Sv base g cap Bd #[I d0, I d1, I d2] w0 e X.wd) := S2.out.later X.le
          clear S2
          generalize X.wd = w2 at S3 ⊢
          go_wp2
          go_roundg (b - (i + 1))
          case measure => omega
          case rel => exact ⟨i + 1, e, by go_num, by omega, by omega, by omega, hes, S3, HQ⟩
    · have hltz : ¬ (i : Int) < (b : Int) := by omega
      go_wp2
      go_end0
      refine ⟨rfl, ?_⟩
      have : insertionSort (ltV d0 d1 d2) dk a b = d := by unfold insertionSort; rw [← HO.out, insOuter_stop _ _ _ _ _ hlt]
      rw [this]
      exact S1.out

end Go.Proofs.YtlahfffgmfjpaaaGreatDoor

/-
  slices.symMergeCmpFunc at places: two runs, each in order, merged in place; those of one key keep their order.
-/
namespace Go.Proofs.YtlahfffgmfjpaaaGreatDoor
open Go Go.RowKit Go.Shelf Go.Sort Go.Lib

attribute [local go_sem] Oper.semAt_some ext_const
attribute [local simp high] size_pl
attribute [local go_sem high] size_pl

set_option maxHeartbeats 16000000 in
set_option maxRecDepth 1000000 in
/-- One ahead of a run. -/
theorem symA_calls [Inhabited Pl] {base g cap Bd : Nat} {d0 d1 d2 : Int} {w0 W : World} {dk : Array Pl} (S : Sv base g cap Bd #[I d0, I d1, I d2] w0 dk W) (hc : CmpP d0 d1 d2 Bd) (hsz : dk.size ≤ 100000) {a m b : Nat} (ham : m = a + 1) (hmb : m < b) (hb : b ≤ dk.size)
    (h2 : Asc (atV d0 d1 d2) m b dk) :
    Calls Tryz.prog 100 #[.slice (some ⟨g, 0, none⟩) dk.size cap, .int .i64 a, .int .i64 m, .int .i64 b, fvR Bd] W fun e W' => e = .returned (.tuple #[]) ∧ ∃ d', Stab (atV d0 d1 d2) a b dk d' ∧ Asc (atV d0 d1 d2) a b d' ∧ Sv base g cap Bd #[I d0, I d1, I d2] w0 d' W' := by
  have hmx : Tryz.prog.follows .mixedOrders = true := by kernel_rfl
  have S0 : Aside (Sv base g cap Bd #[I d0, I d1, I d2] w0 dk W) := S
  have HC : Aside (CmpP d0 d1 d2 Bd) := hc
  have HA : Hid (Asc (atV d0 d1 d2) m b dk) := h2
  have HM : Hid (m = a + 1) := ham
  have hk1 : (m : Int) - (a : Int) = 1 := by omega
  clear S hc h2 ham
  go_enter Tryz.func100, Tryz.ntmps100
  go_wp2
  go_loopg [10, 11] (b - m) (fun g1 vi vj wr => ∃ (i j : Nat), vi = .int .i64 i ∧ vj = .int .i64 j ∧ m ≤ i ∧ i ≤ j ∧ j ≤ b ∧ j - i ≤ g1 ∧ Aside (Sv base g cap Bd #[I d0, I d1, I d2] w0 dk wr) ∧ Hid (i = m ∨ atV d0 d1 d2 dk[i - 1]! < atV d0 d1 d2 dk[a]!) ∧ Hid (j = b ∨ atV d0 d1 d2 dk[a]! ≤ atV d0 d1 d2 dk[j]!))
  case atStart => exact ⟨m, b, rfl, rfl, Nat.le_refl _, by omega, Nat.le_refl _, Nat.le_refl _, S0, Or.inl rfl, Or.inl rfl⟩
  case round =>
    clear S0
    obtain ⟨i, j, rfl, rfl, him, hij, hjb, hg1, S1, HL, HH⟩ := hrel
    by_cases hlt : (i : Int) < (j : Int)
    · obtain ⟨h, eh, h1, h2⟩ : ∃ h : Nat, ((i : Int) + (j : Int)) / 2 = (h : Int) ∧ i ≤ h ∧ h < j := ⟨(i + j) / 2, by omega, by omega, by omega⟩
      have b1 : (h : Int) < (dk.size : Int) := by omega
      have b2 : (a : Int) < (dk.size : Int) := by omega
      have l1 := S1.out.ldx (i := h) (by omega)
      have l2 := S1.out.ldx (i := a) (by omega)
      have hcall : ∀ X : Ext wr, Calls Tryz.prog 47 #[.agg (cellsP dk[h]!).toArray, .agg (cellsP dk[a]!).toArray, .pointer (some ⟨Bd, 0, none⟩)] X.wd fun e W' => e = .returned (I (cmpI (atV d0 d1 d2 dk[h]!) (atV d0 d1 d2 dk[a]!))) ∧ Below X.wd.heap.size X.wd W' := fun X => HC.out _ _ _ (S1.out.box.later X.le)
      have HLL : Hid (cmpI (atV d0 d1 d2 dk[h]!) (atV d0 d1 d2 dk[a]!) < 0 ↔ atV d0 d1 d2 dk[h]! < atV d0 d1 d2 dk[a]!) := cmpI_lt _ _
      generalize cmpI (atV d0 d1 d2 dk[h]!) (atV d0 d1 d2 dk[a]!) = c at hcall HLL
      generalize cellsP dk[h]! = cX at l1 hcall
      generalize cellsP dk[a]! = cY at l2 hcall
      go_wp2_with fail
      by_cases hlv : c < 0
      · refine wp_region_look hmx (by kernel_rfl) ?_
        repeat (go_big_quiet_step ((go_at_call 47; exact calls_ext (hcall _))))
        refine wpQuiet_nil ?_
        intro X
        have S2 : Aside (Sv base g cap Bd #[I d0, I d1, I d2] w0 dk X.wd) := S1.out.later X.le
        clear l1 l2 hcall S1
        generalize X.wd = w2 at S2 ⊢
        have HL2 : Hid (h + 1 = m ∨ atV d0 d1 d2 dk[h + 1 - 1]! < atV d0 d1 d2 dk[a]!) := Or.inr (by rw [Nat.add_sub_cancel]; exact HLL.out.1 hlv)
        go_wp2
        go_roundg (j - (h + 1))
        case measure => omega
        case rel => exact ⟨h + 1, j, by go_num, rfl, by omega, by omega, hjb, Nat.le_refl _, S2, HL2, HH⟩
      · refine wp_region_look hmx (by kernel_rfl) ?_
        repeat (go_big_quiet_step ((go_at_call 47; exact calls_ext (hcall _))))
        refine wpQuiet_nil ?_
        intro X
        have S2 : Aside (Sv base g cap Bd #[I d0, I d1, I d2] w0 dk X.wd) := S1.out.later X.le
        clear l1 l2 hcall S1
        generalize X.wd = w2 at S2 ⊢
        have HH2 : Hid (h = b ∨ atV d0 d1 d2 dk[a]! ≤ atV d0 d1 d2 dk[h]!) := Or.inr (Int.not_lt.1 (fun e => absurd (HLL.out.2 e) (by omega)))
        go_wp2
        go_roundg (h - i)
        case measure => omega
        case rel => exact ⟨i, h, rfl, rfl, him, h1, by omega, Nat.le_refl _, S2, HL, HH2⟩
    · obtain rfl : i = j := by omega
      have HR0 : Hid (Rot a (a + 1) (a + 1) dk dk) := Rot.none' (by omega) (by omega)
      clear hlt hij hg1
      go_wp2
      go_loopg [13] (i - a) (fun g1 vk wr2 => ∃ (k : Nat) (d : Array Pl), vk = .int .i64 k ∧ a ≤ k ∧ k + 1 ≤ i ∧ i - k ≤ g1 ∧ d.size = dk.size ∧ Aside (Sv base g cap Bd #[I d0, I d1, I d2] w0 d wr2) ∧ Hid (Rot a (a + 1) (k + 1) dk d))
      case atStart => exact ⟨a, dk, rfl, Nat.le_refl _, by have := HM.out; omega, Nat.le_refl _, rfl, S1, HR0⟩
      case round =>
        clear S1 HR0
        obtain ⟨k, d, rfl, hak, hki, hg2, hds, S2, HR⟩ := hrel
        by_cases hlt : (k : Int) < (i : Int) - 1
        · have pa : (0 : Int) ≤ (k : Int) + 1 := by omega
          have qa : (k : Int) + 1 < (dk.size : Int) := by omega
          have qb : (k : Int) < (dk.size : Int) := by omega
          have ea : ((k : Int) + 1).toNat = k + 1 := by omega
          have S4 : Aside (Sv base g cap Bd #[I d0, I d1, I d2] w0 (swp d k (k + 1)) ((wr.drew.setCells g (k * nineK) (cellsP d[k + 1]!)).setCells g ((k + 1) * nineK) (cellsP d[k]!))) := S2.out.swapped (by omega) (by omega)
          have l1 := S2.out.ld (i := k) (by omega)
          have l2 := S2.out.ld (i := k + 1) (by omega)
          have s1 := S2.out.st1 (i := k) (by omega) d[k + 1]!
          have s2 := S2.out.st2 (i := k) (j := k + 1) (by omega) (by omega) d[k + 1]! d[k]!
          have n1 := cellsP_nine d[k]!
          have n2 := cellsP_nine d[k + 1]!
          have HQ : Hid (Rot a (a + 1) (k + 1 + 1) dk (swp d k (k + 1))) := HR.out.up (by omega)
          have hsw : (swp d k (k + 1)).size = dk.size := (swp_size _ _ _).trans hds
          generalize swp d k (k + 1) = e2 at S4 HQ hsw
          clear S2 HR
          generalize cellsP d[k]! = cI at S4 l1 s2 n1
          generalize cellsP d[k + 1]! = cJ at S4 l2 s1 s2 n2
          go_wp2_with fail
          go_big_region_o
          clear l1 l2 s1 s2
          generalize (wr.drew.setCells g (k * nineK) cJ).setCells g ((k + 1) * nineK) cI = w3 at S4 ⊢
          go_wp2
          go_roundg (i - (k + 1))
          case measure => omega
          case rel => exact ⟨k + 1, e2, by go_num, by omega, by omega, Nat.le_refl _, hsw, S4, HQ⟩
        · have hki2 : k + 1 = i := by omega
          have HF : Hid (∃ d', Stab (atV d0 d1 d2) a b dk d' ∧ Asc (atV d0 d1 d2) a b d' ∧ Sv base g cap Bd #[I d0, I d1, I d2] w0 d' wr) := by
            have hm := HM.out
            subst hm
            obtain ⟨p1, p2⟩ := one_up (hki2 ▸ HR.out) HA.out hjb HL.out (HH.out.imp id Int.not_lt.2)
            exact ⟨d, p1, p2, S2.out⟩
          clear hki2
          go_wp2
          (try simp only [Exit.inBlock, Exit.then])
          exact bodyPost_ret (results_none rfl _ _ _) rfl ⟨rfl, HF.out⟩

set_option maxHeartbeats 16000000 in
set_option maxRecDepth 1000000 in
/-- One behind a run. -/
theorem symB_calls [Inhabited Pl] {base g cap Bd : Nat} {d0 d1 d2 : Int} {w0 W : World} {dk : Array Pl} (S : Sv base g cap Bd #[I d0, I d1, I d2] w0 dk W) (hc : CmpP d0 d1 d2 Bd) (hsz : dk.size ≤ 100000) {a m b : Nat} (ham : a + 1 < m) (hmb : b = m + 1) (hb : b ≤ dk.size)
    (h2 : Asc (atV d0 d1 d2) a m dk) :
    Calls Tryz.prog 100 #[.slice (some ⟨g, 0, none⟩) dk.size cap, .int .i64 a, .int .i64 m, .int .i64 b, fvR Bd] W fun e W' => e = .returned (.tuple #[]) ∧ ∃ d', Stab (atV d0 d1 d2) a b dk d' ∧ Asc (atV d0 d1 d2) a b d' ∧ Sv base g cap Bd #[I d0, I d1, I d2] w0 d' W' := by
  have hmx : Tryz.prog.follows .mixedOrders = true := by kernel_rfl
  have S0 : Aside (Sv base g cap Bd #[I d0, I d1, I d2] w0 dk W) := S
  have HC : Aside (CmpP d0 d1 d2 Bd) := hc
  have HA : Hid (Asc (atV d0 d1 d2) a m dk) := h2
  have HM : Hid (b = m + 1) := hmb
  have hk0 : ((m : Int) - (a : Int) == 1) = false := by simp; omega
  have hk1 : (b : Int) - (m : Int) = 1 := by omega
  have hbm : m < dk.size := by omega
  clear S hc h2 hmb
  go_enter Tryz.func100, Tryz.ntmps100
  go_wp2
  go_loopg [14, 15] (m - a) (fun g1 vi vj wr => ∃ (i j : Nat), vi = .int .i64 i ∧ vj = .int .i64 j ∧ a ≤ i ∧ i ≤ j ∧ j ≤ m ∧ j - i ≤ g1 ∧ Aside (Sv base g cap Bd #[I d0, I d1, I d2] w0 dk wr) ∧ Hid (i = a ∨ atV d0 d1 d2 dk[i - 1]! ≤ atV d0 d1 d2 dk[m]!) ∧ Hid (j = m ∨ atV d0 d1 d2 dk[m]! < atV d0 d1 d2 dk[j]!))
  case atStart => exact ⟨a, m, rfl, rfl, Nat.le_refl _, by omega, Nat.le_refl _, Nat.le_refl _, S0, Or.inl rfl, Or.inl rfl⟩
  case round =>
    clear S0
    obtain ⟨i, j, rfl, rfl, him, hij, hjb, hg1, S1, HL, HH⟩ := hrel
    by_cases hlt : (i : Int) < (j : Int)
    · obtain ⟨h, eh, h1, h2⟩ : ∃ h : Nat, ((i : Int) + (j : Int)) / 2 = (h : Int) ∧ i ≤ h ∧ h < j := ⟨(i + j) / 2, by omega, by omega, by omega⟩
      have b1 : (h : Int) < (dk.size : Int) := by omega
      have b2 : (m : Int) < (dk.size : Int) := by omega
      have l1 := S1.out.ldx (i := h) (by omega)
      have l2 := S1.out.ldx (i := m) (by omega)
      have hcall : ∀ X : Ext wr, Calls Tryz.prog 47 #[.agg (cellsP dk[m]!).toArray, .agg (cellsP dk[h]!).toArray, .pointer (some ⟨Bd, 0, none⟩)] X.wd fun e W' => e = .returned (I (cmpI (atV d0 d1 d2 dk[m]!) (atV d0 d1 d2 dk[h]!))) ∧ Below X.wd.heap.size X.wd W' := fun X => HC.out _ _ _ (S1.out.box.later X.le)
      have HLL : Hid (cmpI (atV d0 d1 d2 dk[m]!) (atV d0 d1 d2 dk[h]!) < 0 ↔ atV d0 d1 d2 dk[m]! < atV d0 d1 d2 dk[h]!) := cmpI_lt _ _
      generalize cmpI (atV d0 d1 d2 dk[m]!) (atV d0 d1 d2 dk[h]!) = c at hcall HLL
      generalize cellsP dk[h]! = cX at l1 hcall
      generalize cellsP dk[m]! = cY at l2 hcall
      go_wp2_with fail
      by_cases hlv : c < 0
      · refine wp_region_look hmx (by kernel_rfl) ?_
        repeat (go_big_quiet_step ((go_at_call 47; exact calls_ext (hcall _))))
        refine wpQuiet_nil ?_
        intro X
        have S2 : Aside (Sv base g cap Bd #[I d0, I d1, I d2] w0 dk X.wd) := S1.out.later X.le
        clear l1 l2 hcall S1
        generalize X.wd = w2 at S2 ⊢
        have HH2 : Hid (h = m ∨ atV d0 d1 d2 dk[m]! < atV d0 d1 d2 dk[h]!) := Or.inr (HLL.out.1 hlv)
        go_wp2
        go_roundg (h - i)
        case measure => omega
        case rel => exact ⟨i, h, rfl, rfl, him, h1, by omega, Nat.le_refl _, S2, HL, HH2⟩
      · refine wp_region_look hmx (by kernel_rfl) ?_
        repeat (go_big_quiet_step ((go_at_call 47; exact calls_ext (hcall _))))
        refine wpQuiet_nil ?_
        intro X
        have S2 : Aside (Sv base g cap Bd #[I d0, I d1, I d2] w0 dk X.wd) := S1.out.later X.le
        clear l1 l2 hcall S1
        generalize X.wd = w2 at S2 ⊢
        have HL2 : Hid (h + 1 = a ∨ atV d0 d1 d2 dk[h + 1 - 1]! ≤ atV d0 d1 d2 dk[m]!) := Or.inr (by rw [Nat.add_sub_cancel]; exact Int.not_lt.1 (fun e => absurd (HLL.out.2 e) (by omega)))
        go_wp2
        go_roundg (j - (h + 1))
        case measure => omega
        case rel => exact ⟨h + 1, j, by go_num, rfl, by omega, by omega, hjb, Nat.le_refl _, S2, HL2, HH⟩
    · obtain rfl : i = j := by omega
      have HR0 : Hid (Rot m m (m + 1) dk dk) := Rot.none (by omega) (by omega)
      clear hlt hij hg1
      go_wp2
      go_loopg [17] (m - i) (fun g1 vk wr2 => ∃ (k : Nat) (d : Array Pl), vk = .int .i64 k ∧ i ≤ k ∧ k ≤ m ∧ k - i ≤ g1 ∧ d.size = dk.size ∧ Aside (Sv base g cap Bd #[I d0, I d1, I d2] w0 d wr2) ∧ Hid (Rot k m (m + 1) dk d))
      case atStart => exact ⟨m, dk, rfl, hjb, Nat.le_refl _, Nat.le_refl _, rfl, S1, HR0⟩
      case round =>
        clear S1 HR0
        obtain ⟨k, d, rfl, hik, hkm, hg2, hds, S2, HR⟩ := hrel
        by_cases hlt : (i : Int) < (k : Int)
        · obtain ⟨kp, rfl⟩ : ∃ kp, k = kp + 1 := ⟨k - 1, by omega⟩
          have hwp : IntKind.i64.wrap (kp : Int) = (kp : Int) := by rw [IntKind.wrap_i64]; omega
          have pa : (0 : Int) ≤ (kp : Int) + 1 := by omega
          have qa : (kp : Int) + 1 < (dk.size : Int) := by omega
          have qb : (kp : Int) < (dk.size : Int) := by omega
          have qc : (i : Int) < (kp : Int) + 1 := by omega
          have ea : ((kp : Int) + 1).toNat = kp + 1 := by omega
          have S4 : Aside (Sv base g cap Bd #[I d0, I d1, I d2] w0 (swp d (kp + 1) kp) ((wr.drew.setCells g ((kp + 1) * nineK) (cellsP d[kp]!)).setCells g (kp * nineK) (cellsP d[kp + 1]!))) := S2.out.swapped (by omega) (by omega)
          have l1 := S2.out.ld (i := kp + 1) (by omega)
          have l2 := S2.out.ld (i := kp) (by omega)
          have s1 := S2.out.st1 (i := kp + 1) (by omega) d[kp]!
          have s2 := S2.out.st2 (i := kp + 1) (j := kp) (by omega) (by omega) d[kp]! d[kp + 1]!
          have n1 := cellsP_nine d[kp + 1]!
          have n2 := cellsP_nine d[kp]!
          have HQ : Hid (Rot kp m (m + 1) dk (swp d (kp + 1) kp)) := HR.out.down
          have hsw : (swp d (kp + 1) kp).size = dk.size := (swp_size _ _ _).trans hds
          generalize swp d (kp + 1) kp = e2 at S4 HQ hsw
          clear S2 HR
          generalize cellsP d[kp + 1]! = cI at S4 l1 s2 n1
          generalize cellsP d[kp]! = cJ at S4 l2 s1 s2 n2
          go_wp2_with fail
          go_big_region_o
          clear l1 l2 s1 s2
          generalize (wr.drew.setCells g ((kp + 1) * nineK) cJ).setCells g (kp * nineK) cI = w3 at S4 ⊢
          go_wp2
          go_roundg (kp - i)
          case measure => omega
          case rel => exact ⟨kp, e2, by first | rfl | go_num | (congr 1; omega), by omega, by omega, Nat.le_refl _, hsw, S4, HQ⟩
        · obtain rfl : k = i := by omega
          have HF : Hid (∃ d', Stab (atV d0 d1 d2) a b dk d' ∧ Asc (atV d0 d1 d2) a b d' ∧ Sv base g cap Bd #[I d0, I d1, I d2] w0 d' wr) := by
            obtain ⟨p1, p2⟩ := one_down HR.out HA.out him (HL.out.imp id Int.not_lt.2) HH.out
            rw [← HM.out] at p1 p2
            exact ⟨d, p1, p2, S2.out⟩
          go_wp2
          (try simp only [Exit.inBlock, Exit.then])
          exact bodyPost_ret (results_none rfl _ _ _) rfl ⟨rfl, HF.out⟩

end Go.Proofs.YtlahfffgmfjpaaaGreatDoor
