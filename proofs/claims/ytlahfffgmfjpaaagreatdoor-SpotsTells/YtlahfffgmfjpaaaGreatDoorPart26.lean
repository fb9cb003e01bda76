/-
  slices.SortStableFunc at places (blocks sorted by insertion, then merged); spots.rise: the same places, by the midplane at their base, those of one in the order in which they stood.
-/
import Derived.Test.YtlahfffgmfjpaaaGreatDoorSpotsSymC
import Derived.Test.YtlahfffgmfjpaaaGreatDoorPart23
import Derived.Maps.OwnOps
import Derived.Maps.OwnSet
import Derived.Carry
import Derived.Test.YtlahfffgmfjpaaaGreatDoorProg
import Derived.Shelf.SlSortCmp.SmallK
import Derived.Shelf.Small.Bits
import Derived.Shelf.Lay
import Derived.Ground.SlsfProg
import Derived.Ground.NamesProg
namespace Go.Proofs.YtlahfffgmfjpaaaGreatDoor
open Go Go.RowKit Go.Shelf Go.Sort Go.Lib

attribute [local go_sem] Oper.semAt_some ext_const

section
variable {α : Type} [Inhabited α] {key : α → Int}
/-- A pass of merges, at the place A. -/
def TwoA (key : α → Int) (bs n A : Nat) (d : Array α) : Prop := ∃ t, A = t * (2 * bs) ∧ Two key bs n t d
theorem TwoA.start {bs n : Nat} {d : Array α} (h : Blks key bs n n d) : TwoA key bs n 0 d := ⟨0, by simp, Two.start h⟩
theorem TwoA.one {bs n A : Nat} {d : Array α} (h : TwoA key bs n A d) : Asc key A (min (A + bs) n) d := by
  obtain ⟨t, rfl, h⟩ := h
  exact h.one
theorem TwoA.two {bs n A : Nat} {d : Array α} (h : TwoA key bs n A d) : Asc key (A + bs) (min (A + 2 * bs) n) d := by
  obtain ⟨t, rfl, h⟩ := h
  exact h.two
theorem TwoA.step {bs n A e : Nat} {d d' : Array α} (h : TwoA key bs n A d) (S : Stab key A e d d') (he : e ≤ A + 2 * bs) (hA : Asc key A (min (A + 2 * bs) n) d') : TwoA key bs n (A + 2 * bs) d' := by
  obtain ⟨t, rfl, h⟩ := h
  exact ⟨t + 1, by rw [Nat.add_mul, Nat.one_mul], h.step S he hA⟩
theorem TwoA.all {bs n A : Nat} {d : Array α} (h : TwoA key bs n A d) (hn : n ≤ A) : Blks key (2 * bs) n n d := by
  obtain ⟨t, rfl, h⟩ := h
  exact h.all hn
/-- The last step of a pass. -/
theorem TwoA.last {bs n A : Nat} {d d' : Array α} (h : TwoA key bs n A d) (hn : n < A + 2 * bs) (S : Stab key A n d d') (hs : Asc key A n d') : Blks key (2 * bs) n n d' :=
  (h.step S (Nat.le_of_lt hn) (by rw [Nat.min_eq_right (Nat.le_of_lt hn)]; exact hs)).all (Nat.le_of_lt hn)
/-- Blocks of twenty, at the place A. -/
def BlkA (key : α → Int) (n A : Nat) (d : Array α) : Prop := ∃ t, A = t * 20 ∧ Blks key 20 n (t * 20) d
theorem BlkA.step {n A e : Nat} {d d' : Array α} (h : BlkA key n A d) (S : Stab key A e d d') (hA : Asc key A (min (A + 20) n) d') : BlkA key n (A + 20) d' := by
  obtain ⟨t, rfl, h⟩ := h
  exact ⟨t + 1, by omega, by rw [Nat.add_mul, Nat.one_mul]; exact h.step S hA⟩
theorem BlkA.all {n A : Nat} {d : Array α} (h : BlkA key n A d) (hn : n ≤ A) : Blks key 20 n n d := by
  obtain ⟨t, rfl, h⟩ := h
  exact fun t' h' => h t' (by omega)
end

set_option maxHeartbeats 16000000 in
set_option maxRecDepth 1000000 in
/-- slices.stableCmpFunc at places. -/
theorem stableS_calls [Inhabited Pl] {base g cap Bd : Nat} {d0 d1 d2 : Int} {w0 W : World} {dk : Array Pl} (S : Sv base g cap Bd #[I d0, I d1, I d2] w0 dk W) (hc : CmpP d0 d1 d2 Bd) {N : Nat} (hN : dk.size = N) (hsz : N ≤ 100000) :
    Calls Tryz.prog 74 #[.slice (some ⟨g, 0, none⟩) N cap, .int .i64 N, fvR Bd] W fun e W' => e = .returned (.tuple #[]) ∧ ∃ d', Stab (atV d0 d1 d2) 0 N dk d' ∧ Asc (atV d0 d1 d2) 0 N d' ∧ Sv base g cap Bd #[I d0, I d1, I d2] w0 d' W' := by
  have S0 : Aside (Sv base g cap Bd #[I d0, I d1, I d2] w0 dk W) := S
  have HZ : Hid (dk.size = N) := hN
  have HI : Aside (∀ (d : Array Pl) (w1 : World) (a b : Nat), Hid (d.size = N) → Sv base g cap Bd #[I d0, I d1, I d2] w0 d w1 → a ≤ b → b ≤ N → Calls Tryz.prog 99 #[.slice (some ⟨g, 0, none⟩) N cap, .int .i64 a, .int .i64 b, fvR Bd] w1 fun e W' => e = .returned (.tuple #[]) ∧ ∃ d', (Stab (atV d0 d1 d2) a b d d' ∧ Asc (atV d0 d1 d2) a b d') ∧ Sv base g cap Bd #[I d0, I d1, I d2] w0 d' W') := fun d w1 a b hd hS k1 k2 => by
    have hd' := hd.out
    have := insS_calls hS hc (by omega) k1 (by omega)
    rw [hd'] at this
    refine this.mono ?_
    rintro e W' ⟨rfl, hS'⟩
    exact ⟨rfl, _, ins_stab (swo_ltV d0 d1 d2) ltV_iff d a b k1 (by omega), hS'⟩
  have HM : Aside (Merges d0 d1 d2 base g cap Bd w0 N N) := merges_all hc hsz N
  clear S hN hc
  go_enter Tryz.func74, Tryz.ntmps74
  go_wp2
  go_loopg [7, 8] (N + 1) (fun g1 va vb wr => ∃ (A : Nat) (d : Array Pl), va = .int .i64 A ∧ vb = .int .i64 ((A : Int) + 20) ∧ A ≤ N ∧ N + 1 - A ≤ g1 ∧ Hid (d.size = N) ∧ Aside (Sv base g cap Bd #[I d0, I d1, I d2] w0 d wr) ∧ Hid (Stab (atV d0 d1 d2) 0 N dk d ∧ BlkA (atV d0 d1 d2) N A d))
  case atStart => exact ⟨0, dk, rfl, rfl, Nat.zero_le _, by omega, HZ, S0, Stab.refl _ _ _, 0, rfl, Blks.zero _ _ _⟩
  case round =>
    clear S0
    obtain ⟨A, d, rfl, rfl, hAN, hg1, HD, S1, HB⟩ := hrel
    by_cases hlt : (A : Int) + 20 ≤ (N : Int)
    · have hcon := HI.out d wr A (A + 20) HD S1.out (by omega) (by omega)
      rw [show ((A + 20 : Nat) : Int) = (A : Int) + 20 by omega] at hcon
      clear S1
      go_wp2_with fail
      refine hcon.mono ?_
      rintro e w1 ⟨rfl, d', ⟨T1, T2⟩, S2⟩
      have HD2 : Hid (d'.size = N) := T1.size.trans HD.out
      have HB2 : Hid (Stab (atV d0 d1 d2) 0 N dk d' ∧ BlkA (atV d0 d1 d2) N (A + 20) d') := ⟨HB.out.1.trans (T1.wide (Nat.zero_le _) (by omega)), HB.out.2.step T1 (by rw [Nat.min_eq_left (by omega)]; exact T2)⟩
      have S3 : Aside (Sv base g cap Bd #[I d0, I d1, I d2] w0 d' w1) := S2
      clear hcon T1 T2 S2
      go_wp2
      go_roundg (N + 1 - (A + 20))
      case measure => omega
      case rel => exact ⟨A + 20, d', by go_num, by go_num, by omega, Nat.le_refl _, HD2, S3, HB2⟩
    · have hcon := HI.out d wr A N HD S1.out hAN (Nat.le_refl _)
      clear S1
      go_wp2_with fail
      refine hcon.mono ?_
      rintro e w1 ⟨rfl, d', ⟨T1, T2⟩, S2⟩
      have HD2 : Hid (d'.size = N) := T1.size.trans HD.out
      have HB2 : Hid (Stab (atV d0 d1 d2) 0 N dk d' ∧ Blks (atV d0 d1 d2) 20 N N d') := ⟨HB.out.1.trans (T1.wide (Nat.zero_le _) (Nat.le_refl _)), (HB.out.2.step T1 (by rw [Nat.min_eq_right (by omega)]; exact T2)).all (by omega)⟩
      have S3 : Aside (Sv base g cap Bd #[I d0, I d1, I d2] w0 d' w1) := S2
      clear hcon T1 T2 S2 HB HD hlt hg1 hAN
      go_wp2
      go_loopg [6] N (fun g2 vs wr => ∃ (bs : Nat) (d : Array Pl), vs = .int .i64 bs ∧ 20 ≤ bs ∧ N - bs ≤ g2 ∧ Hid (d.size = N) ∧ Aside (Sv base g cap Bd #[I d0, I d1, I d2] w0 d wr) ∧ Hid (Stab (atV d0 d1 d2) 0 N dk d ∧ Blks (atV d0 d1 d2) bs N N d))
      case atStart => exact ⟨20, d', rfl, Nat.le_refl _, by omega, HD2, S3, HB2⟩
      case round =>
        clear S3 HB2 HD2
        obtain ⟨bs, d2', rfl, hbs, hg2, HD3, S4, HB3⟩ := hrel
        by_cases hlt2 : (bs : Int) < (N : Int)
        · have HT0 : Hid (Stab (atV d0 d1 d2) 0 N dk d2' ∧ TwoA (atV d0 d1 d2) bs N 0 d2') := ⟨HB3.out.1, TwoA.start HB3.out.2⟩
          clear HB3
          go_wp2
          go_loopg [7, 8] (N + 1) (fun g3 va vb wr3 => ∃ (A : Nat) (d : Array Pl), va = .int .i64 A ∧ vb = .int .i64 ((A : Int) + 2 * (bs : Int)) ∧ A ≤ N ∧ N + 1 - A ≤ g3 ∧ Hid (d.size = N) ∧ Aside (Sv base g cap Bd #[I d0, I d1, I d2] w0 d wr3) ∧ Hid (Stab (atV d0 d1 d2) 0 N dk d ∧ TwoA (atV d0 d1 d2) bs N A d))
          case atStart => exact ⟨0, d2', rfl, by go_num, Nat.zero_le _, by omega, HD3, S4, HT0⟩
          case round =>
            clear S4 HT0 HD3
            obtain ⟨A, d3, rfl, rfl, hAN, hg3, HD4, S5, HT⟩ := hrel
            by_cases hlt3 : (A : Int) + 2 * (bs : Int) ≤ (N : Int)
            · have hcon := HM.out d3 wr A (A + bs) (A + 2 * bs) HD4.out (by omega) S5.out (by omega) (by omega) (by omega) (by have h := HT.out.2.one; rwa [Nat.min_eq_left (by omega)] at h) (by have h := HT.out.2.two; rwa [Nat.min_eq_left (by omega)] at h)
              rw [show ((A + bs : Nat) : Int) = (A : Int) + (bs : Int) by omega, show ((A + 2 * bs : Nat) : Int) = (A : Int) + 2 * (bs : Int) by omega] at hcon
              clear S5
              go_wp2_with fail
              refine hcon.mono ?_
              rintro e w2 ⟨rfl, d4, T1, T2, S6⟩
              have HD5 : Hid (d4.size = N) := T1.size.trans HD4.out
              have HT2 : Hid (Stab (atV d0 d1 d2) 0 N dk d4 ∧ TwoA (atV d0 d1 d2) bs N (A + 2 * bs) d4) := ⟨HT.out.1.trans (T1.wide (Nat.zero_le _) (by omega)), HT.out.2.step T1 (Nat.le_refl _) (by rw [Nat.min_eq_left (by omega)]; exact T2)⟩
              have S7 : Aside (Sv base g cap Bd #[I d0, I d1, I d2] w0 d4 w2) := S6
              clear hcon T1 T2 S6
              go_wp2
              go_roundg (N + 1 - (A + 2 * bs))
              case measure => omega
              case rel => exact ⟨A + 2 * bs, d4, by go_num, by go_num, by omega, Nat.le_refl _, HD5, S7, HT2⟩
            · by_cases hlt4 : (A : Int) + (bs : Int) < (N : Int)
              · have hcon := HM.out d3 wr A (A + bs) N HD4.out (by omega) S5.out (by omega) (by omega) (Nat.le_refl _) (by have h := HT.out.2.one; rwa [Nat.min_eq_left (by omega)] at h) (by have h := HT.out.2.two; rwa [Nat.min_eq_right (by omega)] at h)
                rw [show ((A + bs : Nat) : Int) = (A : Int) + (bs : Int) by omega] at hcon
                clear S5
                go_wp2_with fail
                refine hcon.mono ?_
                rintro e w2 ⟨rfl, d4, T1, T2, S6⟩
                have HD5 : Hid (d4.size = N) := T1.size.trans HD4.out
                have HB4 : Hid (Stab (atV d0 d1 d2) 0 N dk d4 ∧ Blks (atV d0 d1 d2) (2 * bs) N N d4) := ⟨HT.out.1.trans (T1.wide (Nat.zero_le _) (Nat.le_refl _)), HT.out.2.last (by omega) T1 T2⟩
                have S7 : Aside (Sv base g cap Bd #[I d0, I d1, I d2] w0 d4 w2) := S6
                clear hcon T1 T2 S6
                go_wp2
                go_roundg (N - 2 * bs)
                case measure => omega
                case rel => exact ⟨2 * bs, d4, by go_num, by omega, Nat.le_refl _, HD5, S7, HB4⟩
              · have HB4 : Hid (Stab (atV d0 d1 d2) 0 N dk d3 ∧ Blks (atV d0 d1 d2) (2 * bs) N N d3) := ⟨HT.out.1, HT.out.2.last (by omega) (Stab.refl _ _ _) (by have h := HT.out.2.one; rwa [Nat.min_eq_right (by omega)] at h)⟩
                go_wp2
                go_roundg (N - 2 * bs)
                case measure => omega
                case rel => exact ⟨2 * bs, d3, by go_num, by omega, Nat.le_refl _, HD4, S5, HB4⟩
        · have HF : Hid (∃ d', Stab (atV d0 d1 d2) 0 N dk d' ∧ Asc (atV d0 d1 d2) 0 N d' ∧ Sv base g cap Bd #[I d0, I d1, I d2] w0 d' wr) := by
            refine ⟨d2', HB3.out.1, ?_, S4.out⟩
            rcases Nat.eq_zero_or_pos N with z | z
            · exact Asc.short (by omega)
            · exact HB3.out.2.all z (by omega)
          clear S4 HB3 HD3
          go_wp2
          (try simp only [Exit.inBlock, Exit.then])
          first | exact bodyPost_end (results_none rfl _ _ _) rfl ⟨rfl, HF.out⟩ | exact bodyPost_ret (results_none rfl _ _ _) rfl ⟨rfl, HF.out⟩


set_option maxRecDepth 100000 in
set_option maxHeartbeats 1000000 in
theorem insS_none (fv : Value) (w : World) : Calls Tryz.prog 99 #[.slice none 0 0, .int .i64 0, .int .i64 0, fv] w fun e W' => e = .returned (.tuple #[]) ∧ W' = w := by
  go_enter Tryz.func99, Tryz.ntmps99
  go_wp2
  refine wp_loop_rounds 1 ?_
  rw [rounds_succ]
  go_wp2
  go_end0
  exact ⟨rfl, rfl⟩
set_option maxRecDepth 100000 in
set_option maxHeartbeats 1000000 in
theorem stableS_none (fv : Value) (w : World) : Calls Tryz.prog 74 #[.slice none 0 0, .int .i64 0, fv] w fun e W' => e = .returned (.tuple #[]) ∧ W' = w := by
  have hi := fun W => insS_none fv W
  go_enter Tryz.func74, Tryz.ntmps74
  go_wp2
  refine wp_loop_rounds 1 ?_
  rw [rounds_succ]
  go_wp2_with fail
  refine (hi _).mono ?_
  rintro e w' ⟨rfl, rfl⟩
  go_wp2
  refine wp_loop_rounds 1 ?_
  rw [rounds_succ]
  go_wp2
  go_end0
  exact ⟨rfl, rfl⟩
set_option maxRecDepth 100000 in
set_option maxHeartbeats 1000000 in
/-- slices.SortStableFunc: it hands its list on. -/
theorem sortSt_calls {ao : Option Addr} {n : Nat} {cap : Nat} {fv : Value} {w : World} {R : Ending → World → Prop} (hR : ∀ e W', R e W' → e = .returned (.tuple #[])) (h : Calls Tryz.prog 74 #[.slice ao n cap, .int .i64 n, fv] w R) :
    Calls Tryz.prog 46 #[.slice ao n cap, fv] w R := by
  have H : Hid (∀ e W', R e W' → e = .returned (.tuple #[])) := hR
  clear hR
  go_enter Tryz.func46, Tryz.ntmps46
  go_wp2_with fail
  refine h.mono ?_
  intro e W' hr
  obtain rfl := H.out e W' hr
  go_wp2
  go_end0
  exact hr

/-- A list's places of one key. -/
def ofKey (key : Pl → Int) (k : Int) (l : List Pl) : List Pl := l.filter fun x => decide (key x = k)
set_option maxRecDepth 100000 in
set_option maxHeartbeats 1000000 in
/-- spots.rise: the same list, by the midplanes at the bases. -/
theorem rise_calls {d0 d1 d2 : Int} (hm : mayD d0 d1 d2) {base : Nat} {v : Value} {xs : List Pl} (w : World) (hL : Lp w base v xs) (hn : xs.length ≤ 100000) (hb : base ≤ w.heap.size) :
    Calls Tryz.prog 20 #[A3 d0 d1 d2, v] w fun e W' => e = .returned (.tuple #[]) ∧ ∃ ys : List Pl, Lp W' base v ys ∧ ys.Pairwise (fun x y => atV d0 d1 d2 x ≤ atV d0 d1 d2 y) ∧ (∀ k, ofKey (atV d0 d1 d2) k ys = ofKey (atV d0 d1 d2) k xs) ∧ Below base w W' := by
  obtain ⟨W, hW, hB0, k0⟩ := one_start w #[I d0, I d1, I d2] 23
  have HW : Hid (w.alloc (.cells #[I d0, I d1, I d2] 23) = W) := hW
  have HC : Hid (Calls Tryz.prog 46 #[v, fvR w.heap.size] W fun e W' => e = .returned (.tuple #[]) ∧ ∃ ys : List Pl, Lp W' base v ys ∧ ys.Pairwise (fun x y => atV d0 d1 d2 x ≤ atV d0 d1 d2 y) ∧ (∀ k, ofKey (atV d0 d1 d2) k ys = ofKey (atV d0 d1 d2) k xs) ∧ Below base w W') := by
    have hL1 := hL.later hB0
    obtain ⟨_, h2⟩ := hL
    rcases h2 with ⟨rfl, hz⟩ | ⟨g, cap, cur, rfl, hg, hh, _⟩
    · obtain rfl := List.length_eq_zero_iff.1 hz
      refine sortSt_calls (fun e W' h => h.1) ((stableS_none _ _).mono ?_)
      rintro e W' ⟨rfl, rfl⟩
      exact ⟨rfl, [], Lp.nil _ _, List.Pairwise.nil, fun _ => rfl, hB0.mono hb⟩
    · have : Inhabited Pl := ⟨zP⟩
      have S : Sv base g cap w.heap.size #[I d0, I d1, I d2] w xs.toArray W := ⟨by simpa using hL1, k0, (fun e => by have := (Array.getElem?_eq_some_iff.1 hh).1; omega), Nat.le_trans hb hB0.size, hB0.mono hb⟩
      refine sortSt_calls (fun e W' h => h.1) ((stableS_calls S (cmpP_of hm _) (N := xs.length) (by simp) hn).mono ?_)
      rintro e W' ⟨rfl, d', T1, T2, T3⟩
      have hz : d'.size = xs.length := by simpa using T1.size
      refine ⟨rfl, d'.toList, by have := T3.lst; rwa [hz] at this, ?_, fun k => ?_, T3.below⟩
      · rw [List.pairwise_iff_getElem]
        intro i j hi hj hij
        have := T2 i j (Nat.zero_le _) hij (by simpa [hz] using hj)
        rw [getElem!_pos d' i (by simpa using hi), getElem!_pos d' j (by simpa using hj)] at this
        simpa using this
      · have := T1.keep k
        simpa [ofKey] using this
  obtain ⟨ao, cap, rfl, _⟩ := hL.view
  clear hW hL hm k0 hn
  generalize xs.length = n at *
  go_enter Tryz.func20, Tryz.ntmps20
  go_wp2_with fail
  rw [HW.out]
  refine HC.out.mono ?_
  rintro e w1 ⟨rfl, h⟩
  have H : Hid (∃ ys : List Pl, Lp w1 base (.slice ao n cap) ys ∧ ys.Pairwise (fun x y => atV d0 d1 d2 x ≤ atV d0 d1 d2 y) ∧ (∀ k, ofKey (atV d0 d1 d2) k ys = ofKey (atV d0 d1 d2) k xs) ∧ Below base w w1) := h
  clear h
  go_wp2
  go_end0
  exact ⟨rfl, H.out⟩

end Go.Proofs.YtlahfffgmfjpaaaGreatDoor

/-
  The six orders, in the program's variable; what comes by each, gathered each once; the map that tells which were had.
-/
namespace Go.Proofs.YtlahfffgmfjpaaaGreatDoor
open Go Go.RowKit Go.Shelf Go.Maps

attribute [local go_sem] Oper.semAt_some ext_const eq_ints_at eq_bools_at eq_wants

/-- The variable that lists the orders holds them. -/
def ordFlat : List Int := [0, 1, 2, 0, 2, 1, 1, 0, 2, 1, 2, 0, 2, 0, 1, 2, 1, 0]
def OrdOk (W : World) : Prop := ∀ j, j < 18 → W.cell? ⟨0, j, none⟩ = some (.int .i64 (ordFlat.getD j 0))
theorem OrdOk.lt {W : World} (h : OrdOk W) : 0 < W.heap.size := by
  have := h 0 (by omega)
  unfold World.cell? at this
  split at this
  · rename_i hs
    exact (Array.getElem?_eq_some_iff.1 hs).1
  · cases this
theorem OrdOk.below {n : Nat} {W W' : World} (h : OrdOk W) (hb : Below n W W') (hn : 0 < n) : OrdOk W' := fun j hj => (hb.cell (p := ⟨0, j, none⟩) hn).trans (h j hj)
theorem OrdOk.later {W W' : World} (h : OrdOk W) (hb : Below W.heap.size W W') : OrdOk W' := h.below hb h.lt

theorem OrdOk.cells {W : World} (g : OrdOk W) : (0 < W.heap.size ∧ W.heap.size ≠ 0) ∧
    (W.cell? ⟨0, 0, none⟩ = some (.int .i64 0) ∧ W.cell? ⟨0, 1, none⟩ = some (.int .i64 1) ∧ W.cell? ⟨0, 2, none⟩ = some (.int .i64 2)) ∧ (W.cell? ⟨0, 3, none⟩ = some (.int .i64 0) ∧ W.cell? ⟨0, 4, none⟩ = some (.int .i64 2) ∧ W.cell? ⟨0, 5, none⟩ = some (.int .i64 1)) ∧
    (W.cell? ⟨0, 6, none⟩ = some (.int .i64 1) ∧ W.cell? ⟨0, 7, none⟩ = some (.int .i64 0) ∧ W.cell? ⟨0, 8, none⟩ = some (.int .i64 2)) ∧ (W.cell? ⟨0, 9, none⟩ = some (.int .i64 1) ∧ W.cell? ⟨0, 10, none⟩ = some (.int .i64 2) ∧ W.cell? ⟨0, 11, none⟩ = some (.int .i64 0)) ∧
    (W.cell? ⟨0, 12, none⟩ = some (.int .i64 2) ∧ W.cell? ⟨0, 13, none⟩ = some (.int .i64 0) ∧ W.cell? ⟨0, 14, none⟩ = some (.int .i64 1)) ∧ (W.cell? ⟨0, 15, none⟩ = some (.int .i64 2) ∧ W.cell? ⟨0, 16, none⟩ = some (.int .i64 1) ∧ W.cell? ⟨0, 17, none⟩ = some (.int .i64 0)) :=
  ⟨⟨g.lt, by have := g.lt; omega⟩, ⟨g 0 (by omega), g 1 (by omega), g 2 (by omega)⟩, ⟨g 3 (by omega), g 4 (by omega), g 5 (by omega)⟩, ⟨g 6 (by omega), g 7 (by omega), g 8 (by omega)⟩, ⟨g 9 (by omega), g 10 (by omega), g 11 (by omega)⟩, ⟨g 12 (by omega), g 13 (by omega), g 14 (by omega)⟩, ⟨g 15 (by omega), g 16 (by omega), g 17 (by omega)⟩⟩

def accT (w : Wt) : Nat → List Wt
  | 0 => []
  | k + 1 => if byOrd w k ∈ accT w k then accT w k else accT w k ++ [byOrd w k]
def rotsT (w : Wt) : List Wt := if turnT w then accT w 6 else [w]
theorem accT_len (w : Wt) : ∀ k, (accT w k).length ≤ k
  | 0 => Nat.le_refl _
  | k + 1 => by
    have := accT_len w k
    unfold accT
    split
    · omega
    · simp; omega
theorem accT_old {w : Wt} {k : Nat} (h : byOrd w k ∈ accT w k) : accT w (k + 1) = accT w k := by
  show (if byOrd w k ∈ accT w k then _ else _) = _
  rw [if_pos h]
theorem accT_new {w : Wt} {k : Nat} (h : byOrd w k ∉ accT w k) : accT w (k + 1) = accT w k ++ [byOrd w k] := by
  show (if byOrd w k ∈ accT w k then _ else _) = _
  rw [if_neg h]
theorem byOrd_may {w : Wt} (h : mayT w) (k : Nat) : mayT (byOrd w k) := by
  obtain ⟨x, y, z, p, q, r, t⟩ := w
  simp only [mayT] at h
  unfold byOrd ord
  split <;> simp only [mayT, selI] <;> omega
/-- The map has just the keys of ws. -/
def Keys (D : DataW Unit) (ws : List Wt) : Prop := ∀ u, mayT u → Maps.has D (keyW u) = decide (u ∈ ws)
theorem keys_none : Keys (.map []) [] := fun u _ => by simp [Maps.has]
theorem keys_put {D : DataW Unit} {ws : List Wt} {w : Wt} {d : DataW Unit} (h : Keys D ws) (hD : IsMap D) (hw : mayT w) : Keys (D.put (keyW w) d) (ws ++ [w]) := by
  intro u hu
  by_cases e : u = w
  · subst e
    obtain ⟨x, y, z, p, q, r, t⟩ := u
    rw [has_put_same hD (lawW.key (key_w hw))]
    simp
  · rw [has_put_other (fun k => e (keyW_inj hu hw k)), h u hu]
    simp [e]

abbrev ordV : Value := .agg #[.int .i64 0, .int .i64 1, .int .i64 2, .int .i64 0, .int .i64 2, .int .i64 1, .int .i64 1, .int .i64 0, .int .i64 2, .int .i64 1, .int .i64 2, .int .i64 0, .int .i64 2, .int .i64 0, .int .i64 1, .int .i64 2, .int .i64 1, .int .i64 0]
theorem ixo0 (w : World) : (Instr.index 105 ordV (.int .i64 0)).run Tryz.prog w = .ok (A3 0 1 2) w := by kernel_rfl
theorem ixo1 (w : World) : (Instr.index 105 ordV (.int .i64 1)).run Tryz.prog w = .ok (A3 0 2 1) w := by kernel_rfl
theorem ixo2 (w : World) : (Instr.index 105 ordV (.int .i64 2)).run Tryz.prog w = .ok (A3 1 0 2) w := by kernel_rfl
theorem ixo3 (w : World) : (Instr.index 105 ordV (.int .i64 3)).run Tryz.prog w = .ok (A3 1 2 0) w := by kernel_rfl
theorem ixo4 (w : World) : (Instr.index 105 ordV (.int .i64 4)).run Tryz.prog w = .ok (A3 2 0 1) w := by kernel_rfl
theorem ixo5 (w : World) : (Instr.index 105 ordV (.int .i64 5)).run Tryz.prog w = .ok (A3 2 1 0) w := by kernel_rfl

/-- What a round asks of its order. -/
theorem order_at (x y z : Int) (p q r t : Bool) {k : Nat} (hk : k < 6) : ∃ a b c x' y' z' p' q' r' t', byOrd (x, y, z, p, q, r, t) k = (x', y', z', p', q', r', t') ∧
    (∀ w, (Instr.index 105 ordV (.int .i64 (k : Int))).run Tryz.prog w = .ok (A3 a b c) w) ∧
    (∀ w, Calls Tryz.prog 61 #[V7 x y z p q r t, A3 a b c] w fun e W' => e = .returned (V7 x' y' z' p' q' r' t') ∧ Below w.heap.size w W') := by
  match k, hk with
  | 0, _ => exact ⟨_, _, _, _, _, _, _, _, _, _, rfl, ixo0, turned_0 x y z p q r t⟩
  | 1, _ => exact ⟨_, _, _, _, _, _, _, _, _, _, rfl, ixo1, turned_1 x y z p q r t⟩
  | 2, _ => exact ⟨_, _, _, _, _, _, _, _, _, _, rfl, ixo2, turned_2 x y z p q r t⟩
  | 3, _ => exact ⟨_, _, _, _, _, _, _, _, _, _, rfl, ixo3, turned_3 x y z p q r t⟩
  | 4, _ => exact ⟨_, _, _, _, _, _, _, _, _, _, rfl, ixo4, turned_4 x y z p q r t⟩
  | 5, _ => exact ⟨_, _, _, _, _, _, _, _, _, _, rfl, ixo5, turned_5 x y z p q r t⟩

theorem owns_later {H : Type} {P : Program} {k : TypeId} {R : Value → Option (DataW H × List MemPlace)} {w w' : World} {b n m : Nat} {D : DataW H} (h : w.ownsMap P k R b n D) (hb : Below m w w') (hm : b < m) : w'.ownsMap P k R b n D := by
  obtain ⟨es, clock, e, r⟩ := h
  exact ⟨es, clock, (hb.block b hm).trans e, r⟩

set_option maxRecDepth 100000 in
set_option maxHeartbeats 1000000 in
theorem rot_one {x y z : Int} {p q r : Bool} (w : World) :
    Calls Tryz.prog 36 #[V7 x y z p q r false] w fun e W' => ∃ v, e = .returned v ∧ Wl W' w.heap.size v [(x, y, z, p, q, r, false)] ∧ Below w.heap.size w W' := by
  have hB : Below w.heap.size w ((w.alloc (.cells (cells7 x y z p q r false) 26)).alloc (.cells (cells7 x y z p q r false) 26)) := ((Below.refl _ w).alloc (Nat.le_refl _) _).alloc (by simp) _
  have hO := Wl.one (w.alloc (.cells (cells7 x y z p q r false) 26)) w.heap.size (by simp) x y z p q r false
  have e1 : (w.alloc (.cells (cells7 x y z p q r false) 26)).heap.size = w.heap.size + 1 := by simp
  rw [e1] at hO
  clear e1
  have HO : Hid _ := hO
  clear hO
  go_enter Tryz.func36, Tryz.ntmps36
  go_wp2
  go_ret
  exact ⟨_, rfl, HO.out, hB⟩

theorem run_ord {W : World} (h : OrdOk W) : (Instr.loadAt 105 (.pointer (some ⟨0, 0, none⟩))).run Tryz.prog W = .ok ordV W := by
  obtain ⟨_, ⟨g0, g1, g2⟩, ⟨g3, g4, g5⟩, ⟨g6, g7, g8⟩, ⟨g9, g10, g11⟩, ⟨g12, g13, g14⟩, ⟨g15, g16, g17⟩⟩ := h.cells
  go_simp

/-- 'range orders': the variable is read whole. -/
theorem wpList_load_ord {ops : Array Oper} {rest : List Oper} {o : Oper} {a : Act} {Q : Exit → Act → World → Prop} {W : World} (hgd : o.guard = none) (ho : o.op = Op.load 105 (Operand.global 0)) (hO : OrdOk W)
    (h : wpList Tryz.prog ops Q rest (a.put o.dst ordV) W) : wpList Tryz.prog ops Q (o :: rest) a W := by
  refine wpList_plain hgd fun K hK => ?_
  have hrun := run_ord hO
  unfold Oper.wp
  simp [execOp, ho, Act.eval, hrun, Result.andThen]
  exact hK _ _ h

end Go.Proofs.YtlahfffgmfjpaaaGreatDoor

/-
  turn.rotations: each that comes of what is asked for by one of the six orders, each once, by a map.
-/
namespace Go.Proofs.YtlahfffgmfjpaaaGreatDoor
open Go Go.RowKit Go.Shelf Go.Maps

attribute [local go_sem] Oper.semAt_some ext_const eq_ints_at eq_bools_at eq_wants

/-- What holds at each round's head. -/
structure Rd (w : World) (M : Nat) (u : Wt) (cs : Array Value) (k : Nat) (v : Value) (wr : World) : Prop where
  map : ∃ D, wr.ownsMap Tryz.prog 26 (plainElem (H := Unit) Tryz.prog 3) M k D ∧ Keys D (accT u k)
  list : Wl wr (w.heap.size + 1) v (accT u k)
  apart : v.ownBlock ≠ some M
  src : Blk wr w.heap.size 26 cs
  below : Below w.heap.size w wr
  low : w.heap.size < M
  size : M < wr.heap.size

theorem Rd.upto {w : World} {M : Nat} {u : Wt} {cs : Array Value} {k : Nat} {v : Value} {wr w1 : World} {o1 : Obj} (R : Rd w M u cs k v wr) (hB : Below (wr.alloc o1).heap.size (wr.alloc o1) w1) (o2 : Obj) : Rd w M u cs k v (w1.alloc o2) := by
  obtain ⟨D, hD, hK⟩ := R.map
  have hs := R.size
  have h1 : (wr.alloc o1).heap.size = wr.heap.size + 1 := by simp
  have h2 := hB.size
  refine ⟨⟨D, (owns_later (hD.alloc o1) hB (by omega)).alloc o2, hK⟩, (Wl.later (R.list.alloc o1) hB).alloc o2, R.apart, ((R.src.alloc o1).later hB).alloc o2, then_alloc (then_below (then_alloc R.below o1) hB) o2, R.low, ?_⟩
  simp; omega
theorem Rd.stay {w : World} {M : Nat} {u : Wt} {cs : Array Value} {k : Nat} {v : Value} {wr : World} (R : Rd w M u cs k v wr) (h : byOrd u k ∈ accT u k) : Rd w M u cs (k + 1) v wr := by
  obtain ⟨D, hD, hK⟩ := R.map
  exact ⟨⟨D, hD.mono (Nat.le_succ _), by rw [accT_old h]; exact hK⟩, by rw [accT_old h]; exact R.list, R.apart, R.src, R.below, R.low, R.size⟩
theorem Rd.next {w : World} {M : Nat} {u : Wt} {cs : Array Value} {k : Nat} {v v4 : Value} {wr w3 w4 : World} {D d : DataW Unit} (R : Rd w M u cs k v wr) (h : byOrd u k ∉ accT u k) (hm : mayT (byOrd u k)) (hK : Keys D (accT u k)) (hD : IsMap D)
    (hO : w3.ownsMap Tryz.prog 26 (plainElem (H := Unit) Tryz.prog 3) M (k + 1) (D.put (keyW (byOrd u k)) d)) (hG : wr.grownBy w3 (some M))
    (hW : Wl w4 (w.heap.size + 1) v4 (accT u k ++ [byOrd u k])) (hG4 : w3.grownBy w4 v.ownBlock) (hloc : v4.ownBlock = v.ownBlock ∨ ∃ g, v4.ownBlock = some g ∧ w3.heap.size < g) : Rd w M u cs (k + 1) v4 w4 := by
  have hs := R.size
  have hlo := R.low
  have hsz := R.below.size
  have h3 := hG.size
  have h4 := hG4.size
  have hv : ∀ g, v.ownBlock = some g → w.heap.size + 1 ≤ g := fun g hg => (World.ownsRow.lt R.list g hg).1
  have hB3 : Below w.heap.size w w3 := R.below.grown hG (by omega) (fun j hj => by cases hj; omega)
  refine ⟨⟨_, hO.kept hG4 (fun e => R.apart e.symm), by rw [accT_new h]; exact keys_put hK hD hm⟩, by rw [accT_new h]; exact hW, ?_, ?_, hB3.grown hG4 (by omega) (fun j hj => by have := hv j hj; omega), hlo, by omega⟩
  · rcases hloc with e | ⟨g, e, hg⟩
    · rw [e]; exact R.apart
    · rw [e]; simp; omega
  · have e1 := hG.block w.heap.size (by omega) (by simp; omega)
    have e2 := hG4.block w.heap.size (by omega) (fun e => by have := hv _ e.symm; omega)
    exact e2.trans (e1.trans R.src)

theorem Rd.list3 {w : World} {M : Nat} {u : Wt} {cs : Array Value} {k : Nat} {v : Value} {wr w3 : World} (R : Rd w M u cs k v wr) (hG : wr.grownBy w3 (some M)) : Wl w3 (w.heap.size + 1) v (accT u k) :=
  World.ownsRow.kept R.list hG (Or.inr R.apart)
theorem Rd.size3 {w : World} {M : Nat} {u : Wt} {cs : Array Value} {k : Nat} {v : Value} {wr w3 : World} (R : Rd w M u cs k v wr) (hG : wr.grownBy w3 (some M)) : w.heap.size + 1 ≤ w3.heap.size := by
  have h1 := hG.size
  have h2 := R.size
  have h3 := R.low
  omega
theorem turned_kept {wr w1 w3 : World} {o1 : Obj} {M : Nat} {t : TypeId} {u : Array Value} (hM : M < wr.heap.size) (hB : Below (wr.alloc o1).heap.size (wr.alloc o1) w1) (hG : (w1.alloc (.cells u t)).grownBy w3 (some M)) : Blk w3 w1.heap.size t u := by
  have h1 : (wr.alloc o1).heap.size = wr.heap.size + 1 := by simp
  have h2 := hB.size
  exact (hG.block w1.heap.size (by simp) (by simp; omega)).trans (Blk.new w1 t u)

set_option maxRecDepth 100000 in
set_option maxHeartbeats 4000000 in
theorem rot_six {x y z : Int} {p q r : Bool} (w : World) (hO : OrdOk w) (hm : mayT (x, y, z, p, q, r, true)) :
    Calls Tryz.prog 36 #[V7 x y z p q r true] w fun e W' => ∃ v, e = .returned v ∧ Wl W' w.heap.size v (accT (x, y, z, p, q, r, true) 6) ∧ Below w.heap.size w W' := by
  have HO : Hid (OrdOk w) := hO
  have HM : Hid (mayT (x, y, z, p, q, r, true)) := hm
  have hmm := @run_makeMap Tryz.prog
  obtain ⟨uu, huu⟩ : ∃ uu : Wt, uu = (x, y, z, p, q, r, true) := ⟨_, rfl⟩
  have HU : Hid (uu = (x, y, z, p, q, r, true)) := huu
  rw [← huu]
  clear huu hO hm
  go_enter Tryz.func36, Tryz.ntmps36
  go_wp2_with (first
    | (at_make; refine wpList_mkWl (base := w.heap.size + 1) rfl _ _ rfl 6 rfl rfl (by omega) (by omega) (by simp) ?_; intro v0 w0 hL0 hB0 hv0
       have HB0 : Hid (Below w.heap.size w w0) := ((Below.refl _ w).alloc (Nat.le_refl _) _).trans (hB0.mono (by omega))
       have HS : Hid (Blk w0 w.heap.size 26 (cells7 x y z p q r true)) := (Blk.new w 26 (cells7 x y z p q r true)).below hB0 (by omega)
       have HZ : Hid (w.heap.size + 1 < w0.heap.size) := by
         show _ < _
         have := (World.ownsRow.lt hL0 _ hv0).2
         simpa using this
       have HV : Hid (v0.ownBlock = some (w.heap.size + 1)) := by show _ = _; rw [hv0]; simp
       have HL : Hid (Wl w0 (w.heap.size + 1) v0 []) := hL0
       clear hv0 hB0 hL0
       skip)
    | (refine wpList_load_ord rfl rfl ((HO.out.later HB0.out).later ((Below.refl _ _).alloc (Nat.le_refl _) _)) ?_)
    | go_in)
  have hU : uu = (x, y, z, p, q, r, true) := HU.out
  go_loopw [3, 18] (fun v i wr => ∃ k : Nat, k ≤ 6 ∧ i = .int .i64 k ∧ Rd w w0.heap.size uu (cells7 x y z p q r true) k v wr) (fun _ i _ => 6 - (RowKit.intOf i).toNat)
  case atStart =>
    refine ⟨0, by omega, rfl, ⟨.map [], World.ownsMap_made _ _ _ _, keys_none⟩, HL.out.alloc _, ?_, HS.out.alloc _, then_alloc HB0.out _, ?_, by simp⟩
    · rw [HV.out]
      have := HZ.out
      simp; omega
    · have := HZ.out; omega
  case round =>
    obtain ⟨k, hk, rfl, R⟩ := hrel
    obtain ⟨ao, cap, rfl, _⟩ := R.list.view
    have hl := accT_len uu k
    by_cases hlt : (k : Int) < 6
    · have hk6 : k < 6 := by omega
      obtain ⟨a, b, c, x', y', z', p', q', r', t', hby, hix, htu⟩ := order_at x y z p q r true hk6
      rw [← hU] at hby
      have hmy : mayT (x', y', z', p', q', r', t') := by rw [← hby]; exact byOrd_may (by rw [hU]; exact HM.out) k
      have HMY : Hid (mayT (x', y', z', p', q', r', t')) := hmy
      have hkey := key_w hmy
      have HBY : Hid (byOrd uu k = (x', y', z', p', q', r', t')) := hby
      obtain ⟨s0, s1, s2, s3, s4, s5, s6⟩ := R.src.seven
      have hbz : w.heap.size < wr.heap.size := R.src.lt
      clear hmy hby hU
      by_cases hin : (x', y', z', p', q', r', t') ∈ accT uu k
      · have HIN : Hid ((x', y', z', p', q', r', t') ∈ accT uu k) := hin
        clear hin
        go_wp2_with (first
          | (go_at_call 61; refine (htu _).mono ?_; rintro e w1 ⟨rfl, hB1⟩
             have R2 := R.upto hB1 (.cells (cells7 x' y' z' p' q' r' t') 26)
             obtain ⟨D, hD, hK⟩ := R2.map
             have hh := hK _ HMY.out
             rw [decide_eq_true HIN.out] at hh
             clear hK)
          | (at_lookup; refine wpList_lookup_own_ok_int _ rfl _ _ 104 rfl 26 3 .i64 lawW Tryz.underlying104 Tryz.underlying3 (zeroI _) w0.heap.size k D rfl hD _ _ rfl hkey ?_; intro cc hat hwc)
          | go_in)
        go_roundw
        case rel => exact ⟨k + 1, by omega, by go_num, R2.stay (by rw [HBY.out]; exact HIN.out)⟩
        case measure => simp [RowKit.intOf]; omega
      · have HIN : Hid ((x', y', z', p', q', r', t') ∉ accT uu k) := hin
        clear hin
        go_wp2_with (first
          | (go_at_call 61; refine (htu _).mono ?_; rintro e w1 ⟨rfl, hB1⟩
             have R2 := R.upto hB1 (.cells (cells7 x' y' z' p' q' r' t') 26)
             obtain ⟨D, hD, hK⟩ := R2.map
             have hh := hK _ HMY.out
             rw [decide_eq_false HIN.out] at hh
             have HK : Hid (Keys D (accT uu k)) := hK
             clear hK)
          | (at_lookup; refine wpList_lookup_own_ok_int _ rfl _ _ 104 rfl 26 3 .i64 lawW Tryz.underlying104 Tryz.underlying3 (zeroI _) w0.heap.size k D rfl hD _ _ rfl hkey ?_; intro cc hat hwc)
          | (at_mapUpdate; refine wpList_mapUpdate_own _ rfl _ _ _ 104 rfl 26 3 lawW Tryz.underlying104 _ w0.heap.size k D rfl hD (by unfold maxLen; omega) _ _ _ rfl rfl hkey _ [] (plainElem_int Tryz.underlying3 (WalkArith.wf_i64 (by omega))) ?_; intro w3 hO3 hG3
             obtain ⟨j0, j1, j2, j3, j4, j5, j6⟩ := Blk.seven (turned_kept R.size hB1 hG3)
             have hL3 := R2.list3 hG3
             have hz3 := R2.size3 hG3
             have hl3 : (accT uu k).length ≤ 100000 := by omega)
          | (at_builtin; refine wpList_appW (base := w.heap.size + 1) (xs := accT uu k) rfl _ _ rfl rfl rfl hL3 hl3 hz3 ?_; intro v4 w4 hW4 hG4 hloc)
          | go_in)
        go_roundw
        case rel =>
          have e := HBY.out
          exact ⟨k + 1, by omega, by go_num, R2.next (by rw [e]; exact HIN.out) (by rw [e]; exact HMY.out) HK.out hD.isMap (by rw [e]; exact hO3) hG3 (by rw [e]; exact hW4) hG4 hloc⟩
        case measure => simp [RowKit.intOf]; omega
    · obtain rfl : k = 6 := by omega
      have hW := R.list.weak (Nat.le_succ w.heap.size)
      have hB := R.below
      clear R hU
      go_wp2
      go_ret
      exact ⟨_, rfl, hW, hB⟩

end Go.Proofs.YtlahfffgmfjpaaaGreatDoor

/-
  slices.SortFunc over what is asked for, as the library's contract asks for it.
-/
namespace Go.Proofs.YtlahfffgmfjpaaaGreatDoor
open Go Go.Shelf Go.RowKit Go.Lib Go.Sort

shelf_lay_g SlLaysF0.n6 Slsf 6 at Tryz 37 as sortW
shelf_lay Lays.n125 Nm 125 at Tryz as bitsLenW
#check @sortW
#check @bitsLenW

end Go.Proofs.YtlahfffgmfjpaaaGreatDoor

/-
  slices.SortFunc over a list of what is asked for, by turn.compare: the same ones, sorted.
-/
namespace Go.Proofs.YtlahfffgmfjpaaaGreatDoor
open Go Go.RowKit Go.Shelf Go.Sort Go.Lib

theorem flat_eq (ws : List Wt) : (flatK cellsW 7 ws.toArray).toList = flatW ws := by
  apply List.ext_getElem?
  intro t
  by_cases ht : t < ws.length * 7
  · have h1 : t / 7 < ws.length := by omega
    have h2 : t % 7 < 7 := Nat.mod_lt _ (by omega)
    have e := flatW_get ws (t / 7) (t % 7) h2 h1
    rw [show t / 7 * 7 + t % 7 = t by omega] at e
    rw [e]
    simp [flatK, ht, h1, cellsW_len, h2]
  · rw [List.getElem?_eq_none (by simp; omega), List.getElem?_eq_none (by rw [flatW_len]; omega)]

theorem take_put (cur F : Array Value) (h : F.size ≤ cur.size) : (putCells id 0 F cur).toList.take F.size = F.toList := by
  apply List.ext_getElem?
  intro j
  by_cases hj : j < F.size
  · rw [List.getElem?_take_of_lt hj, Array.getElem?_toList]
    simp [putCells, hj, show j < cur.size by omega]
  · rw [List.getElem?_take_eq_none (by omega), List.getElem?_eq_none (by simp; omega)]

theorem holds_w {w : World} {g : Nat} {cur : Array Value} {e : TypeId} {ws : List Wt} (hb : w.heap[g]? = some (.cells cur e (0, 0))) (ht : cur.toList.take (ws.length * 7) = flatW ws) : HoldsK cellsW 7 w g 0 ws.toArray := by
  intro j hj
  have hj' : j < ws.length * 7 := by simpa using hj
  refine ⟨?_, by simp [World.frozen?, hb]⟩
  have h1 : (cur.toList.take (ws.length * 7))[j]? = (flatK cellsW 7 ws.toArray).toList[j]? := by rw [ht, flat_eq]
  rw [List.getElem?_take_of_lt hj'] at h1
  simp only [World.cell?, hb, Nat.zero_add]
  simp only [Option.isSome_none, Bool.false_eq_true, if_false]
  rw [← Array.getElem?_toList, h1, Array.getElem?_toList]
  simp [hj']

theorem heap_w {w : World} {g n : Nat} {os : Array Obj} {cur : Array Value} {e : TypeId} {fr : Nat × Nat} (d : Array Wt) (hb : w.heap[g]? = some (.cells cur e fr)) :
    (sortWorldK cellsW 7 w g 0 n d os).heap[g]? = some (.cells (putCells id 0 (flatK cellsW 7 d) cur) e fr) := by
  have hg : g < w.heap.size := (Array.getElem?_eq_some_iff.1 hb).1
  unfold sortWorldK putRowK
  rw [heap_grow_old _ _ (by simpa using hg)]
  simp [putRow, mapBlock, Sort.ahead, Array.getElem?_modify, hb, onCells]

theorem grown_w {w : World} {g n : Nat} {os : Array Obj} (d : Array Wt) : w.grownBy (sortWorldK cellsW 7 w g 0 n d os) (some g) := by
  unfold sortWorldK putRowK
  refine ⟨rfl, rfl, rfl, by simp, fun k hk hne => ?_⟩
  rw [heap_grow_old _ _ (by simpa using hk)]
  have : g ≠ k := fun e => hne (by rw [e])
  simp [putRow, mapBlock, Sort.ahead, Array.getElem?_modify, this]

/-- The program's order is one. -/
theorem lt_cmp (a b : Wt) : ltOf cmpT a b = lessT a b := by
  obtain ⟨x, y, z, p, q, r, t⟩ := a
  obtain ⟨x', y', z', p', q', r', t'⟩ := b
  unfold ltOf
  rw [Bool.eq_iff_iff, decide_eq_true_eq]
  simp only [cmpT, lessT]
  rcases cmpI_cases x x' with ⟨h, e⟩ | ⟨h, e⟩ | ⟨h, e⟩
  · rw [e]; simp [h, show x ≠ x' by omega]
  · rw [e]; simp [show ¬ x < x' by omega, show x ≠ x' by omega]
  · rw [e]
    subst h
    rcases cmpI_cases y y' with ⟨h, e⟩ | ⟨h, e⟩ | ⟨h, e⟩
    · rw [e]; simp [h, show y ≠ y' by omega]
    · rw [e]; simp [show ¬ y < y' by omega, show y ≠ y' by omega]
    · rw [e]
      subst h
      rcases cmpI_cases z z' with ⟨h, e⟩ | ⟨h, e⟩ | ⟨h, e⟩
      · rw [e]; simp [h, show z ≠ z' by omega]
      · rw [e]; simp [show ¬ z < z' by omega, show z ≠ z' by omega]
      · rw [e]
        subst h
        cases p <;> cases p' <;> cases q <;> cases q' <;> cases r <;> cases r' <;> simp [ffT, bit]

theorem less_iff (a b : Wt) : lessT a b = true ↔ (a.1 < b.1 ∨ (a.1 = b.1 ∧ (a.2.1 < b.2.1 ∨ (a.2.1 = b.2.1 ∧ (a.2.2.1 < b.2.2.1 ∨ (a.2.2.1 = b.2.2.1 ∧
    (bit a.2.2.2.1 * 4 + bit a.2.2.2.2.1 * 2 + bit a.2.2.2.2.2.1 < bit b.2.2.2.1 * 4 + bit b.2.2.2.2.1 * 2 + bit b.2.2.2.2.2.1))))))) := by
  obtain ⟨x, y, z, p, q, r, t⟩ := a
  obtain ⟨x', y', z', p', q', r', t'⟩ := b
  simp only [lessT]
  by_cases h1 : x = x'
  · subst h1
    by_cases h2 : y = y'
    · subst h2
      by_cases h3 : z = z'
      · subst h3
        cases p <;> cases p' <;> cases q <;> cases q' <;> cases r <;> cases r' <;> simp [bit]
      · simp [h3]
    · simp [h2]
  · simp [h1]

theorem swo_w : SWO (ltOf cmpT) where
  irrefl a := by
    rw [lt_cmp]
    cases h : lessT a a
    · rfl
    · rw [less_iff] at h
      omega
  trans a b c h1 h2 := by
    rw [lt_cmp, less_iff] at *
    omega
  ntrans a b c h1 h2 := by
    rw [lt_cmp] at *
    cases h : lessT a c
    · rfl
    · have k1 : ¬ lessT a b = true := by rw [h1]; simp
      have k2 : ¬ lessT b c = true := by rw [h2]; simp
      rw [less_iff] at k1 k2 h
      omega

/-- 'slices.SortFunc(list, compare)'. -/
theorem sortT_calls {base : Nat} {v : Value} {ws : List Wt} (w : World) (hL : Wl w base v ws) (hn : ws.length ≤ 12) (h0 : ws ≠ []) :
    Calls Tryz.prog 37 #[v, .func (.func 38) #[] #[]] w fun e W' => e = .returned (.tuple #[]) ∧
      ∃ ws' : List Wt, Wl W' base v ws' ∧ ws'.Perm ws ∧ (∀ i j (hi : i < ws'.length) (hj : j < ws'.length), i < j → lessT ws'[j] ws'[i] = false) ∧ w.grownBy W' v.ownBlock := by
  obtain ⟨h1, h2⟩ := hL
  rcases h2 with ⟨_, hz⟩ | ⟨g, cap, cur, rfl, hg, hh, hc, hc2, hs, ht⟩
  · exact absurd (List.length_eq_zero_iff.1 hz) h0
  · have eg : ∀ args w, (callFunc 38 args).run Tryz.prog w = .ok (.enter 38 args) w := enters_of Tryz.func38 (by kernel_rfl) rfl
    have hcmp : CmpLays Tryz.prog 38 #[] cellsW 7 cmpT g 0 ws.toArray.size w := by
      intro m os dk _ a b
      obtain ⟨x, y, z, p, q, r, t⟩ := a
      obtain ⟨x', y', z', p', q', r', t'⟩ := b
      exact compare_calls x y z p q r t x' y' z' p' q' r' t' _
    have hlen : ∀ (n : Nat) (W : World), n ≤ 12 → Calls Tryz.prog (sortW_ren.f 15) #[.int .u64 n] W fun e w' => (∃ l : Int, e = .returned (.int .i64 l)) ∧ w' = W := fun n W h =>
      (Any.bits_Len bitsLenW n W (by omega) (by omega)).mono fun _ _ ⟨he, hw⟩ => ⟨⟨_, he⟩, hw⟩
    have hcon := AnyQ.slices_SortFunc_small_sorted sortW 7 (fun w => by kernel_rfl) (fun w => by kernel_rfl) cellsW cellsW_len (fun a u hu => by
      obtain ⟨x, y, z, p, q, r, t⟩ := a
      simp [cellsW] at hu
      rcases hu with rfl | rfl | rfl | rfl | rfl | rfl | rfl <;> rfl) cmpT 38 #[] swo_w g 0 cap ws.toArray w eg hcmp (holds_w hh ht) (Array.getElem?_eq_some_iff.1 hh).1 (by simpa using hn) hlen
    change Calls Tryz.prog 37 _ _ _ at hcon
    refine hcon.mono ?_
    rintro e W' ⟨rfl, d', n, os, hp, hsrt, rfl⟩
    have hsz : d'.size = ws.length := by simpa using hp.1
    refine ⟨rfl, d'.toList, ?_, ?_, ?_, grown_w d'⟩
    · have e1 : d'.toList.length = ws.length := by simpa using hsz
      have e2 : (flatK cellsW 7 d').size = ws.length * 7 := by rw [size_flatK, hsz]
      have e3 : (flatK cellsW 7 d').toList = flatW d'.toList := by rw [← flat_eq]
      refine ⟨by rw [flatW_len], .inr ⟨g, cap, _, by rw [e1], hg, heap_w d' hh, by rw [e1]; exact hc, hc2, by simpa [putCells] using hs, ?_⟩⟩
      rw [e1, ← e2, take_put _ _ (by rw [e2, hs]; exact Nat.mul_le_mul_right 7 hc), e3]
    · have := hp.2.2
      have e1 : d'.toList.length = ws.length := by simpa using hsz
      have e2 : (d'.toList.take ws.length).Perm ws := by simpa [hsz] using this
      rwa [List.take_of_length_le (Nat.le_of_eq e1)] at e2
    · intro i j hi hj hij
      have := hsrt i j (Nat.zero_le _) hij (by simpa [hsz] using hj)
      rw [lt_cmp] at this
      have gi : d'[i]! = d'[i]'(by simpa using hi) := getElem!_pos d' i (by simpa using hi)
      have gj : d'[j]! = d'[j]'(by simpa using hj) := getElem!_pos d' j (by simpa using hj)
      rw [gi, gj] at this
      simpa using this

end Go.Proofs.YtlahfffgmfjpaaaGreatDoor
