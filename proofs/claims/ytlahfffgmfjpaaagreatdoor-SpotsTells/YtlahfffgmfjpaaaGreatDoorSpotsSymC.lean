/-
  slices.symMergeCmpFunc at places: two runs of two and more are cut so that each half is merged by itself; and so any two runs. (Written by tools/gen/spots_sym.py.)
-/
import Derived.Test.YtlahfffgmfjpaaaGreatDoorPart24
namespace Go.Proofs.YtlahfffgmfjpaaaGreatDoor
open Go Go.RowKit Go.Shelf Go.Sort Go.Lib

attribute [local go_sem] Oper.semAt_some ext_const
attribute [local simp high] size_pl
attribute [local go_sem high] size_pl

/-- From where to where the cut is sought. -/
def sideS (a m b mid s0 r0 : Nat) : Prop := (mid < m ∧ s0 = mid + m - b ∧ r0 = mid) ∨ (m ≤ mid ∧ s0 = a ∧ r0 = m)
/-- What a merge of two runs comes to. -/
def Merges [Inhabited Pl] (d0 d1 d2 : Int) (base g cap Bd : Nat) (w0 : World) (n : Nat) (N : Nat) : Prop := ∀ (dk : Array Pl) (W : World) (a m b : Nat), dk.size = N → b - a ≤ n → Sv base g cap Bd #[I d0, I d1, I d2] w0 dk W → a < m → m < b → b ≤ N →
  Asc (atV d0 d1 d2) a m dk → Asc (atV d0 d1 d2) m b dk →
  Calls Tryz.prog 100 #[.slice (some ⟨g, 0, none⟩) N cap, .int .i64 a, .int .i64 m, .int .i64 b, fvR Bd] W fun e W' => e = .returned (.tuple #[]) ∧ ∃ d', Stab (atV d0 d1 d2) a b dk d' ∧ Asc (atV d0 d1 d2) a b d' ∧ Sv base g cap Bd #[I d0, I d1, I d2] w0 d' W'

theorem Stab.asc {α : Type} [Inhabited α] {key : α → Int} {a b x y : Nat} {d d' : Array α} (S : Stab key a b d d') (A : Asc key x y d) (h : b ≤ x ∨ y ≤ a) : Asc key x y d' := A.same fun i h1 h2 => S.out i (by omega)

set_option maxHeartbeats 32000000 in
set_option maxRecDepth 1000000 in
/-- Two runs of two and more. -/
theorem symC_calls [Inhabited Pl] {base g cap Bd : Nat} {d0 d1 d2 : Int} {w0 W : World} {dk : Array Pl} {nn : Nat} (IH : Merges d0 d1 d2 base g cap Bd w0 nn dk.size) (S : Sv base g cap Bd #[I d0, I d1, I d2] w0 dk W) (hc : CmpP d0 d1 d2 Bd) (hsz : dk.size ≤ 100000) {a m b : Nat} (ham : a + 1 < m) (hmb : m + 1 < b) (hb : b ≤ dk.size) (hnn : b - a ≤ nn + 1)
    (A1 : Asc (atV d0 d1 d2) a m dk) (A2 : Asc (atV d0 d1 d2) m b dk) :
    Calls Tryz.prog 100 #[.slice (some ⟨g, 0, none⟩) dk.size cap, .int .i64 a, .int .i64 m, .int .i64 b, fvR Bd] W fun e W' => e = .returned (.tuple #[]) ∧ ∃ d', Stab (atV d0 d1 d2) a b dk d' ∧ Asc (atV d0 d1 d2) a b d' ∧ Sv base g cap Bd #[I d0, I d1, I d2] w0 d' W' := by
  have hmx : Tryz.prog.follows .mixedOrders = true := by kernel_rfl
  have S0 : Aside (Sv base g cap Bd #[I d0, I d1, I d2] w0 dk W) := S
  have HC : Aside (CmpP d0 d1 d2 Bd) := hc
  have HI : Aside (Merges d0 d1 d2 base g cap Bd w0 nn dk.size) := IH
  have HA : Hid (Asc (atV d0 d1 d2) a m dk ∧ Asc (atV d0 d1 d2) m b dk) := ⟨A1, A2⟩
  have HR : Hid (∀ (w1 : World) (x y : Nat), Sv base g cap Bd #[I d0, I d1, I d2] w0 dk w1 → x < m → m < y → y ≤ dk.size → Calls Tryz.prog 119 #[.slice (some ⟨g, 0, none⟩) dk.size cap, .int .i64 x, .int .i64 m, .int .i64 y, fvR Bd] w1 fun e W' => e = .returned (.tuple #[]) ∧ ∃ d', Rot x m y dk d' ∧ Sv base g cap Bd #[I d0, I d1, I d2] w0 d' W') := fun w1 x y hS k1 k2 k3 => rotate_calls hS hsz k1 k2 k3 _
  have HF : Hid (∀ (st en mid : Nat) (d1' : Array Pl), Cut (atV d0 d1 d2) a m b mid st en dk → Rot st m en dk d1' →
      Stab (atV d0 d1 d2) a b dk d1' ∧ Asc (atV d0 d1 d2) a st d1' ∧ Asc (atV d0 d1 d2) st mid d1' ∧ Asc (atV d0 d1 d2) mid en d1' ∧ Asc (atV d0 d1 d2) en b d1' ∧ (∀ i j, a ≤ i → i < mid → mid ≤ j → j < b → atV d0 d1 d2 d1'[i]! ≤ atV d0 d1 d2 d1'[j]!)) := fun st en mid d1' C R => C.rot A1 A2 R
  have hk0 : ((m : Int) - (a : Int) == 1) = false := by simp; omega
  have hk1 : ((b : Int) - (m : Int) == 1) = false := by simp; omega
  obtain ⟨mid, emid, Hmid⟩ : ∃ mid : Nat, ((a : Int) + (b : Int)) / 2 = (mid : Int) ∧ Hid (mid = (a + b) / 2) := ⟨(a + b) / 2, by omega, rfl⟩
  obtain ⟨n, en0, Hn⟩ : ∃ n : Nat, (mid : Int) + (m : Int) = (n : Int) ∧ Hid (n = mid + m) := ⟨mid + m, by omega, rfl⟩
  obtain ⟨p, ep, Hp⟩ : ∃ p : Nat, (n : Int) - 1 = (p : Int) ∧ Hid (p + 1 = n) := ⟨n - 1, by omega, by show n - 1 + 1 = n; omega⟩
  clear S hc IH A1 A2
  go_enter Tryz.func100, Tryz.ntmps100
  rcases Nat.lt_or_ge mid m with cm | cm
  · have cmz : (mid : Int) < (m : Int) := by omega
    obtain ⟨s0, es0, Hs0⟩ : ∃ s0 : Nat, (n : Int) - (b : Int) = (s0 : Int) ∧ Hid (s0 = mid + m - b) := ⟨mid + m - b, by have h1 := Hmid.out; have h2 := Hn.out; omega, rfl⟩
    have HS1 : Hid (sideS a m b mid s0 mid) := Or.inl ⟨cm, Hs0.out, rfl⟩
    have HB : Hid (∀ c : Nat, s0 ≤ c → c < mid → c < m ∧ c ≤ p ∧ p - c < b) := fun c k1 k2 => by
      have h1 := Hn.out
      have h2 := Hp.out
      have h3 := Hmid.out
      have h4 := HS1.out
      unfold sideS at h4
      show c < m ∧ c ≤ p ∧ p - c < b
      omega
    have hle : s0 ≤ mid := by
      have h3 := Hmid.out
      have h4 := HS1.out
      unfold sideS at h4
      omega
    go_wp2
    go_loopg [20, 21] (mid - s0) (fun g1 vi vj wr => ∃ (st r : Nat), vi = .int .i64 st ∧ vj = .int .i64 r ∧ s0 ≤ st ∧ st ≤ r ∧ r ≤ mid ∧ r - st ≤ g1 ∧ Aside (Sv base g cap Bd #[I d0, I d1, I d2] w0 dk wr) ∧ Hid (st = s0 ∨ atV d0 d1 d2 dk[st - 1]! ≤ atV d0 d1 d2 dk[p - (st - 1)]!) ∧ Hid (r = mid ∨ atV d0 d1 d2 dk[p - r]! < atV d0 d1 d2 dk[r]!))
    case atStart => exact ⟨s0, mid, by first | rfl | go_num | (congr 1; omega), by first | rfl | go_num | (congr 1; omega), Nat.le_refl _, by omega, Nat.le_refl _, Nat.le_refl _, S0, Or.inl rfl, Or.inl rfl⟩
    case round =>
      clear S0
      obtain ⟨st, r, rfl, rfl, hs1, hsr, hr1, hg1, S1, HL, HH⟩ := hrel
      by_cases hlt : (st : Int) < (r : Int)
      · obtain ⟨c, ec, c1, c2⟩ : ∃ c : Nat, ((st : Int) + (r : Int)) / 2 = (c : Int) ∧ st ≤ c ∧ c < r := ⟨(st + r) / 2, by omega, by omega, by omega⟩
        obtain ⟨g1', g2', g3'⟩ := HB.out c (by omega) (by omega)
        obtain ⟨q, eq, HQ, b2⟩ : ∃ q : Nat, (p : Int) - (c : Int) = (q : Int) ∧ Hid (q = p - c) ∧ (q : Int) < (dk.size : Int) := ⟨p - c, by omega, rfl, by omega⟩
        have b1 : (c : Int) < (dk.size : Int) := by omega
        have l1 := S1.out.ldx (i := c) (by omega)
        have l2 := S1.out.ldx (i := q) (by omega)
        have hcall : ∀ X : Ext wr, Calls Tryz.prog 47 #[.agg (cellsP dk[q]!).toArray, .agg (cellsP dk[c]!).toArray, .pointer (some ⟨Bd, 0, none⟩)] X.wd fun e W' => e = .returned (I (cmpI (atV d0 d1 d2 dk[q]!) (atV d0 d1 d2 dk[c]!))) ∧ Below X.wd.heap.size X.wd W' := fun X => HC.out _ _ _ (S1.out.box.later X.le)
        have HLL : Hid (cmpI (atV d0 d1 d2 dk[q]!) (atV d0 d1 d2 dk[c]!) < 0 ↔ atV d0 d1 d2 dk[q]! < atV d0 d1 d2 dk[c]!) := cmpI_lt _ _
        generalize cmpI (atV d0 d1 d2 dk[q]!) (atV d0 d1 d2 dk[c]!) = cc at hcall HLL
        generalize cellsP dk[c]! = cX at l1 hcall
        generalize cellsP dk[q]! = cY at l2 hcall
        go_wp2_with fail
        by_cases hlv : cc < 0
        · refine wp_region_look hmx (by kernel_rfl) ?_
          repeat (go_big_quiet_step ((go_at_call 47; exact calls_ext (hcall _))))
          refine wpQuiet_nil ?_
          intro X
          have S2 : Aside (Sv base g cap Bd #[I d0, I d1, I d2] w0 dk X.wd) := S1.out.later X.le
          clear l1 l2 hcall S1
          generalize X.wd = w2 at S2 ⊢
          have HH2 : Hid (c = mid ∨ atV d0 d1 d2 dk[p - c]! < atV d0 d1 d2 dk[c]!) := Or.inr (by rw [← HQ.out]; exact HLL.out.1 hlv)
          go_wp2
          go_roundg (c - st)
          case measure => omega
          case rel => exact ⟨st, c, rfl, rfl, hs1, c1, by omega, Nat.le_refl _, S2, HL, HH2⟩
        · refine wp_region_look hmx (by kernel_rfl) ?_
          repeat (go_big_quiet_step ((go_at_call 47; exact calls_ext (hcall _))))
          refine wpQuiet_nil ?_
          intro X
          have S2 : Aside (Sv base g cap Bd #[I d0, I d1, I d2] w0 dk X.wd) := S1.out.later X.le
          clear l1 l2 hcall S1
          generalize X.wd = w2 at S2 ⊢
          have HL2 : Hid (c + 1 = s0 ∨ atV d0 d1 d2 dk[c + 1 - 1]! ≤ atV d0 d1 d2 dk[p - (c + 1 - 1)]!) := Or.inr (by rw [Nat.add_sub_cancel, ← HQ.out]; exact Int.not_lt.1 (fun e => absurd (HLL.out.2 e) (by omega)))
          go_wp2
          go_roundg (r - (c + 1))
          case measure => omega
          case rel => exact ⟨c + 1, r, by go_num, rfl, by omega, by omega, hr1, Nat.le_refl _, S2, HL2, HH⟩
      · obtain rfl : st = r := by omega
        obtain ⟨en, een, Hen⟩ : ∃ en : Nat, (n : Int) - (st : Int) = (en : Int) ∧ Hid (en = mid + m - st) := ⟨mid + m - st, by have h1 := Hn.out; have h2 := HS1.out; unfold sideS at h2; omega, rfl⟩
        have HCut : Hid (Cut (atV d0 d1 d2) a m b mid st en dk) := by
          have h1 := HL.out
          have h2 := HH.out
          rw [show p = mid + m - 1 by have h3 := Hp.out; have h4 := Hn.out; omega] at h1 h2
          rw [Hen.out]
          exact cut_of (by omega) (by omega) Hmid.out HA.out.1 HA.out.2 HS1.out hs1 hr1 (h1.imp id Int.not_lt.2) h2
        have k1 := HCut.out.ast
        have k2 := HCut.out.stm
        have k3 := HCut.out.smd
        have k4 := HCut.out.men
        have k5 := HCut.out.enb
        have k6 := HCut.out.mde
        have k7 := HCut.out.len
        clear hlt hsr hg1 HL HH hs1 hr1 HA HC
        rcases Nat.lt_or_ge st m with c1 | c1
        · rcases Nat.lt_or_ge m en with c2 | c2
          · have f1 : (st : Int) < (m : Int) := by omega
            have f2 : (m : Int) < (en : Int) := by omega
            have hrot := HR.out _ st en S1.out c1 c2 (by omega)
            rcases Nat.lt_or_ge a st with c3 | c3
            · have f3 : (a : Int) < (st : Int) := by omega
              have f4 : (st : Int) < (mid : Int) := by omega
              have f5 : (mid : Int) < (en : Int) := by omega
              rcases Nat.lt_or_ge en b with c4 | c4
              · have f6 : (en : Int) < (b : Int) := by omega
                go_wp2_with fail
                refine hrot.mono ?_
                rintro e w1 ⟨rfl, d1', R1, S2⟩
                have HZ1 : Hid (d1'.size = dk.size) := R1.size
                have HP : Hid (Stab (atV d0 d1 d2) a b dk d1' ∧ Asc (atV d0 d1 d2) a st d1' ∧ Asc (atV d0 d1 d2) st mid d1' ∧ Asc (atV d0 d1 d2) mid en d1' ∧ Asc (atV d0 d1 d2) en b d1' ∧ (∀ i j, a ≤ i → i < mid → mid ≤ j → j < b → atV d0 d1 d2 d1'[i]! ≤ atV d0 d1 d2 d1'[j]!)) := HF.out st en mid d1' HCut.out R1
                have SV : Aside (Sv base g cap Bd #[I d0, I d1, I d2] w0 d1' w1) := S2
                clear R1 S2 hrot
                have hA := HI.out d1' w1 a st mid HZ1.out (by omega) SV.out (by omega) (by omega) (by omega) HP.out.2.1 HP.out.2.2.1
                go_wp2_with fail
                refine hA.mono ?_
                rintro e w2 ⟨rfl, d2', T1, T2, T3⟩
                have HT : Hid (Stab (atV d0 d1 d2) a mid d1' d2' ∧ Asc (atV d0 d1 d2) a mid d2') := ⟨T1, T2⟩
                have HZ2 : Hid (d2'.size = dk.size) := T1.size.trans HZ1.out
                have SW2 : Aside (Sv base g cap Bd #[I d0, I d1, I d2] w0 d2' w2) := T3
                clear hA T1 T2 T3
                clear SV
                have hB := HI.out d2' w2 mid en b HZ2.out (by omega) SW2.out (by omega) (by omega) (by omega) (HT.out.1.asc HP.out.2.2.2.1 (Or.inl (Nat.le_refl _))) (HT.out.1.asc HP.out.2.2.2.2.1 (Or.inl (by omega)))
                clear SW2
                go_wp2_with fail
                refine hB.mono ?_
                rintro e w3 ⟨rfl, d3, T1, T2, T3⟩
                have HF3 : Hid (∃ d', Stab (atV d0 d1 d2) a b dk d' ∧ Asc (atV d0 d1 d2) a b d' ∧ Sv base g cap Bd #[I d0, I d1, I d2] w0 d' w3) := by
                  obtain ⟨p1, p2⟩ := merge_join (by omega) (by omega) HP.out.1 HP.out.2.2.2.2.2 HT.out.1 HT.out.2 T1 T2
                  exact ⟨d3, p1, p2, T3⟩
                clear hB T1 T2 T3
                go_wp2
                (try simp only [Exit.inBlock, Exit.then])
                first | exact bodyPost_end (results_none rfl _ _ _) rfl ⟨rfl, HF3.out⟩ | exact bodyPost_ret (results_none rfl _ _ _) rfl ⟨rfl, HF3.out⟩
              · have f6 : decide ((en : Int) < (b : Int)) = false := decide_eq_false (by omega)
                have f6n : ¬ (en : Int) < (b : Int) := by omega
                go_wp2_with fail
                refine hrot.mono ?_
                rintro e w1 ⟨rfl, d1', R1, S2⟩
                have HZ1 : Hid (d1'.size = dk.size) := R1.size
                have HP : Hid (Stab (atV d0 d1 d2) a b dk d1' ∧ Asc (atV d0 d1 d2) a st d1' ∧ Asc (atV d0 d1 d2) st mid d1' ∧ Asc (atV d0 d1 d2) mid en d1' ∧ Asc (atV d0 d1 d2) en b d1' ∧ (∀ i j, a ≤ i → i < mid → mid ≤ j → j < b → atV d0 d1 d2 d1'[i]! ≤ atV d0 d1 d2 d1'[j]!)) := HF.out st en mid d1' HCut.out R1
                have SV : Aside (Sv base g cap Bd #[I d0, I d1, I d2] w0 d1' w1) := S2
                clear R1 S2 hrot
                have hA := HI.out d1' w1 a st mid HZ1.out (by omega) SV.out (by omega) (by omega) (by omega) HP.out.2.1 HP.out.2.2.1
                go_wp2_with fail
                refine hA.mono ?_
                rintro e w2 ⟨rfl, d2', T1, T2, T3⟩
                have HT : Hid (Stab (atV d0 d1 d2) a mid d1' d2' ∧ Asc (atV d0 d1 d2) a mid d2') := ⟨T1, T2⟩
                have HZ2 : Hid (d2'.size = dk.size) := T1.size.trans HZ1.out
                have SW2 : Aside (Sv base g cap Bd #[I d0, I d1, I d2] w0 d2' w2) := T3
                clear hA T1 T2 T3
                clear SV
                have HF3 : Hid (∃ d', Stab (atV d0 d1 d2) a b dk d' ∧ Asc (atV d0 d1 d2) a b d' ∧ Sv base g cap Bd #[I d0, I d1, I d2] w0 d' w2) := by
                  obtain ⟨p1, p2⟩ := merge_join (by omega) (by omega) HP.out.1 HP.out.2.2.2.2.2 HT.out.1 HT.out.2 (Stab.refl mid b d2') (by have h := HT.out.1.asc HP.out.2.2.2.1 (Or.inl (Nat.le_refl _)); rwa [show en = b by omega] at h)
                  exact ⟨d2', p1, p2, SW2.out⟩
                clear SW2
                go_wp2
                (try simp only [Exit.inBlock, Exit.then])
                first | exact bodyPost_end (results_none rfl _ _ _) rfl ⟨rfl, HF3.out⟩ | exact bodyPost_ret (results_none rfl _ _ _) rfl ⟨rfl, HF3.out⟩
            · have f3 : decide ((a : Int) < (st : Int)) = false := decide_eq_false (by omega)
              have f3n : ¬ (a : Int) < (st : Int) := by omega
              have f5 : (mid : Int) < (en : Int) := by omega
              rcases Nat.lt_or_ge en b with c4 | c4
              · have f6 : (en : Int) < (b : Int) := by omega
                exfalso
                have h1 := Hmid.out
                have h2 := Hen.out
                omega
              · have f6 : decide ((en : Int) < (b : Int)) = false := decide_eq_false (by omega)
                have f6n : ¬ (en : Int) < (b : Int) := by omega
                go_wp2_with fail
                refine hrot.mono ?_
                rintro e w1 ⟨rfl, d1', R1, S2⟩
                have HZ1 : Hid (d1'.size = dk.size) := R1.size
                have HP : Hid (Stab (atV d0 d1 d2) a b dk d1' ∧ Asc (atV d0 d1 d2) a st d1' ∧ Asc (atV d0 d1 d2) st mid d1' ∧ Asc (atV d0 d1 d2) mid en d1' ∧ Asc (atV d0 d1 d2) en b d1' ∧ (∀ i j, a ≤ i → i < mid → mid ≤ j → j < b → atV d0 d1 d2 d1'[i]! ≤ atV d0 d1 d2 d1'[j]!)) := HF.out st en mid d1' HCut.out R1
                have SV : Aside (Sv base g cap Bd #[I d0, I d1, I d2] w0 d1' w1) := S2
                clear R1 S2 hrot
                obtain ⟨d2', HT, HZ2⟩ : ∃ d2', Hid ((Stab (atV d0 d1 d2) a mid d1' d2' ∧ Asc (atV d0 d1 d2) a mid d2') ∧ Sv base g cap Bd #[I d0, I d1, I d2] w0 d2' w1) ∧ Hid (d2'.size = dk.size) := ⟨d1', ⟨⟨Stab.refl _ _ _, (by have h := HP.out.2.2.1; rwa [show st = a by omega] at h)⟩, SV.out⟩, HZ1.out⟩
                have SW2 : Aside (Sv base g cap Bd #[I d0, I d1, I d2] w0 d2' w1) := HT.out.2
                replace HT : Hid (Stab (atV d0 d1 d2) a mid d1' d2' ∧ Asc (atV d0 d1 d2) a mid d2') := HT.out.1
                clear SV
                have HF3 : Hid (∃ d', Stab (atV d0 d1 d2) a b dk d' ∧ Asc (atV d0 d1 d2) a b d' ∧ Sv base g cap Bd #[I d0, I d1, I d2] w0 d' w1) := by
                  obtain ⟨p1, p2⟩ := merge_join (by omega) (by omega) HP.out.1 HP.out.2.2.2.2.2 HT.out.1 HT.out.2 (Stab.refl mid b d2') (by have h := HT.out.1.asc HP.out.2.2.2.1 (Or.inl (Nat.le_refl _)); rwa [show en = b by omega] at h)
                  exact ⟨d2', p1, p2, SW2.out⟩
                clear SW2
                go_wp2
                (try simp only [Exit.inBlock, Exit.then])
                first | exact bodyPost_end (results_none rfl _ _ _) rfl ⟨rfl, HF3.out⟩ | exact bodyPost_ret (results_none rfl _ _ _) rfl ⟨rfl, HF3.out⟩
          · obtain rfl : en = m := by omega
            have f1 : (st : Int) < (en : Int) := by omega
            have f2 : decide ((en : Int) < (en : Int)) = false := decide_eq_false (by omega)
            have f2n : ¬ (en : Int) < (en : Int) := by omega
            have f3 : (a : Int) < (st : Int) := by omega
            have f4 : decide ((st : Int) < (mid : Int)) = false := decide_eq_false (by omega)
            have f4n : ¬ (st : Int) < (mid : Int) := by omega
            have f5 : (mid : Int) < (en : Int) := by omega
            have f6 : (en : Int) < (b : Int) := by omega
            have HP : Hid (Stab (atV d0 d1 d2) a b dk dk ∧ Asc (atV d0 d1 d2) a st dk ∧ Asc (atV d0 d1 d2) st mid dk ∧ Asc (atV d0 d1 d2) mid en dk ∧ Asc (atV d0 d1 d2) en b dk ∧ (∀ i j, a ≤ i → i < mid → mid ≤ j → j < b → atV d0 d1 d2 dk[i]! ≤ atV d0 d1 d2 dk[j]!)) := HF.out st en mid dk HCut.out (Rot.none' (by omega) (by omega))
            have SV : Aside (Sv base g cap Bd #[I d0, I d1, I d2] w0 dk wr) := S1.out
            obtain ⟨d1', ed1⟩ : ∃ d1', d1' = dk := ⟨_, rfl⟩
            rw [← ed1] at SV HP
            obtain ⟨w1, ew1⟩ : ∃ w1, w1 = wr := ⟨_, rfl⟩
            subst ew1
            have HZ1 : Hid (d1'.size = dk.size) := by show _ = _; rw [ed1]
            have HP : Hid (Stab (atV d0 d1 d2) a b dk d1' ∧ Asc (atV d0 d1 d2) a st d1' ∧ Asc (atV d0 d1 d2) st mid d1' ∧ Asc (atV d0 d1 d2) mid en d1' ∧ Asc (atV d0 d1 d2) en b d1' ∧ (∀ i j, a ≤ i → i < mid → mid ≤ j → j < b → atV d0 d1 d2 d1'[i]! ≤ atV d0 d1 d2 d1'[j]!)) := by rw [ed1]; rw [ed1] at HP; exact HP
            clear S1 ed1
            obtain ⟨d2', HT, HZ2⟩ : ∃ d2', Hid ((Stab (atV d0 d1 d2) a mid d1' d2' ∧ Asc (atV d0 d1 d2) a mid d2') ∧ Sv base g cap Bd #[I d0, I d1, I d2] w0 d2' w1) ∧ Hid (d2'.size = dk.size) := ⟨d1', ⟨⟨Stab.refl _ _ _, (by have h := HP.out.2.1; rwa [show st = mid by omega] at h)⟩, SV.out⟩, HZ1.out⟩
            have SW2 : Aside (Sv base g cap Bd #[I d0, I d1, I d2] w0 d2' w1) := HT.out.2
            replace HT : Hid (Stab (atV d0 d1 d2) a mid d1' d2' ∧ Asc (atV d0 d1 d2) a mid d2') := HT.out.1
            clear SV
            have hB := HI.out d2' w1 mid en b HZ2.out (by omega) SW2.out (by omega) (by omega) (by omega) (HT.out.1.asc HP.out.2.2.2.1 (Or.inl (Nat.le_refl _))) (HT.out.1.asc HP.out.2.2.2.2.1 (Or.inl (by omega)))
            clear SW2
            go_wp2_with fail
            refine hB.mono ?_
            rintro e w3 ⟨rfl, d3, T1, T2, T3⟩
            have HF3 : Hid (∃ d', Stab (atV d0 d1 d2) a b dk d' ∧ Asc (atV d0 d1 d2) a b d' ∧ Sv base g cap Bd #[I d0, I d1, I d2] w0 d' w3) := by
              obtain ⟨p1, p2⟩ := merge_join (by omega) (by omega) HP.out.1 HP.out.2.2.2.2.2 HT.out.1 HT.out.2 T1 T2
              exact ⟨d3, p1, p2, T3⟩
            clear hB T1 T2 T3
            go_wp2
            (try simp only [Exit.inBlock, Exit.then])
            first | exact bodyPost_end (results_none rfl _ _ _) rfl ⟨rfl, HF3.out⟩ | exact bodyPost_ret (results_none rfl _ _ _) rfl ⟨rfl, HF3.out⟩
        · exfalso
          omega
  · have cmz : ¬ (mid : Int) < (m : Int) := by omega
    have HS1 : Hid (sideS a m b mid a m) := Or.inr ⟨cm, rfl, rfl⟩
    have HB : Hid (∀ c : Nat, a ≤ c → c < m → c < m ∧ c ≤ p ∧ p - c < b) := fun c k1 k2 => by
      have h1 := Hn.out
      have h2 := Hp.out
      have h3 := Hmid.out
      have h4 := HS1.out
      unfold sideS at h4
      show c < m ∧ c ≤ p ∧ p - c < b
      omega
    have hle : a ≤ m := by
      have h3 := Hmid.out
      have h4 := HS1.out
      unfold sideS at h4
      omega
    go_wp2
    go_loopg [20, 21] (m - a) (fun g1 vi vj wr => ∃ (st r : Nat), vi = .int .i64 st ∧ vj = .int .i64 r ∧ a ≤ st ∧ st ≤ r ∧ r ≤ m ∧ r - st ≤ g1 ∧ Aside (Sv base g cap Bd #[I d0, I d1, I d2] w0 dk wr) ∧ Hid (st = a ∨ atV d0 d1 d2 dk[st - 1]! ≤ atV d0 d1 d2 dk[p - (st - 1)]!) ∧ Hid (r = m ∨ atV d0 d1 d2 dk[p - r]! < atV d0 d1 d2 dk[r]!))
    case atStart => exact ⟨a, m, by first | rfl | go_num | (congr 1; omega), by first | rfl | go_num | (congr 1; omega), Nat.le_refl _, by omega, Nat.le_refl _, Nat.le_refl _, S0, Or.inl rfl, Or.inl rfl⟩
    case round =>
      clear S0
      obtain ⟨st, r, rfl, rfl, hs1, hsr, hr1, hg1, S1, HL, HH⟩ := hrel
      by_cases hlt : (st : Int) < (r : Int)
      · obtain ⟨c, ec, c1, c2⟩ : ∃ c : Nat, ((st : Int) + (r : Int)) / 2 = (c : Int) ∧ st ≤ c ∧ c < r := ⟨(st + r) / 2, by omega, by omega, by omega⟩
        obtain ⟨g1', g2', g3'⟩ := HB.out c (by omega) (by omega)
        obtain ⟨q, eq, HQ, b2⟩ : ∃ q : Nat, (p : Int) - (c : Int) = (q : Int) ∧ Hid (q = p - c) ∧ (q : Int) < (dk.size : Int) := ⟨p - c, by omega, rfl, by omega⟩
        have b1 : (c : Int) < (dk.size : Int) := by omega
        have l1 := S1.out.ldx (i := c) (by omega)
        have l2 := S1.out.ldx (i := q) (by omega)
        have hcall : ∀ X : Ext wr, Calls Tryz.prog 47 #[.agg (cellsP dk[q]!).toArray, .agg (cellsP dk[c]!).toArray, .pointer (some ⟨Bd, 0, none⟩)] X.wd fun e W' => e = .returned (I (cmpI (atV d0 d1 d2 dk[q]!) (atV d0 d1 d2 dk[c]!))) ∧ Below X.wd.heap.size X.wd W' := fun X => HC.out _ _ _ (S1.out.box.later X.le)
        have HLL : Hid (cmpI (atV d0 d1 d2 dk[q]!) (atV d0 d1 d2 dk[c]!) < 0 ↔ atV d0 d1 d2 dk[q]! < atV d0 d1 d2 dk[c]!) := cmpI_lt _ _
        generalize cmpI (atV d0 d1 d2 dk[q]!) (atV d0 d1 d2 dk[c]!) = cc at hcall HLL
        generalize cellsP dk[c]! = cX at l1 hcall
        generalize cellsP dk[q]! = cY at l2 hcall
        go_wp2_with fail
        by_cases hlv : cc < 0
        · refine wp_region_look hmx (by kernel_rfl) ?_
          repeat (go_big_quiet_step ((go_at_call 47; exact calls_ext (hcall _))))
          refine wpQuiet_nil ?_
          intro X
          have S2 : Aside (Sv base g cap Bd #[I d0, I d1, I d2] w0 dk X.wd) := S1.out.later X.le
          clear l1 l2 hcall S1
          generalize X.wd = w2 at S2 ⊢
          have HH2 : Hid (c = m ∨ atV d0 d1 d2 dk[p - c]! < atV d0 d1 d2 dk[c]!) := Or.inr (by rw [← HQ.out]; exact HLL.out.1 hlv)
          go_wp2
          go_roundg (c - st)
          case measure => omega
          case rel => exact ⟨st, c, rfl, rfl, hs1, c1, by omega, Nat.le_refl _, S2, HL, HH2⟩
        · refine wp_region_look hmx (by kernel_rfl) ?_
          repeat (go_big_quiet_step ((go_at_call 47; exact calls_ext (hcall _))))
          refine wpQuiet_nil ?_
          intro X
          have S2 : Aside (Sv base g cap Bd #[I d0, I d1, I d2] w0 dk X.wd) := S1.out.later X.le
          clear l1 l2 hcall S1
          generalize X.wd = w2 at S2 ⊢
          have HL2 : Hid (c + 1 = a ∨ atV d0 d1 d2 dk[c + 1 - 1]! ≤ atV d0 d1 d2 dk[p - (c + 1 - 1)]!) := Or.inr (by rw [Nat.add_sub_cancel, ← HQ.out]; exact Int.not_lt.1 (fun e => absurd (HLL.out.2 e) (by omega)))
          go_wp2
          go_roundg (r - (c + 1))
          case measure => omega
          case rel => exact ⟨c + 1, r, by go_num, rfl, by omega, by omega, hr1, Nat.le_refl _, S2, HL2, HH⟩
      · obtain rfl : st = r := by omega
        obtain ⟨en, een, Hen⟩ : ∃ en : Nat, (n : Int) - (st : Int) = (en : Int) ∧ Hid (en = mid + m - st) := ⟨mid + m - st, by have h1 := Hn.out; have h2 := HS1.out; unfold sideS at h2; omega, rfl⟩
        have HCut : Hid (Cut (atV d0 d1 d2) a m b mid st en dk) := by
          have h1 := HL.out
          have h2 := HH.out
          rw [show p = mid + m - 1 by have h3 := Hp.out; have h4 := Hn.out; omega] at h1 h2
          rw [Hen.out]
          exact cut_of (by omega) (by omega) Hmid.out HA.out.1 HA.out.2 HS1.out hs1 hr1 (h1.imp id Int.not_lt.2) h2
        have k1 := HCut.out.ast
        have k2 := HCut.out.stm
        have k3 := HCut.out.smd
        have k4 := HCut.out.men
        have k5 := HCut.out.enb
        have k6 := HCut.out.mde
        have k7 := HCut.out.len
        clear hlt hsr hg1 HL HH hs1 hr1 HA HC
        rcases Nat.lt_or_ge st m with c1 | c1
        · rcases Nat.lt_or_ge m en with c2 | c2
          · have f1 : (st : Int) < (m : Int) := by omega
            have f2 : (m : Int) < (en : Int) := by omega
            have hrot := HR.out _ st en S1.out c1 c2 (by omega)
            rcases Nat.lt_or_ge a st with c3 | c3
            · have f3 : (a : Int) < (st : Int) := by omega
              have f4 : (st : Int) < (mid : Int) := by omega
              have f5 : (mid : Int) < (en : Int) := by omega
              rcases Nat.lt_or_ge en b with c4 | c4
              · have f6 : (en : Int) < (b : Int) := by omega
                go_wp2_with fail
                refine hrot.mono ?_
                rintro e w1 ⟨rfl, d1', R1, S2⟩
                have HZ1 : Hid (d1'.size = dk.size) := R1.size
                have HP : Hid (Stab (atV d0 d1 d2) a b dk d1' ∧ Asc (atV d0 d1 d2) a st d1' ∧ Asc (atV d0 d1 d2) st mid d1' ∧ Asc (atV d0 d1 d2) mid en d1' ∧ Asc (atV d0 d1 d2) en b d1' ∧ (∀ i j, a ≤ i → i < mid → mid ≤ j → j < b → atV d0 d1 d2 d1'[i]! ≤ atV d0 d1 d2 d1'[j]!)) := HF.out st en mid d1' HCut.out R1
                have SV : Aside (Sv base g cap Bd #[I d0, I d1, I d2] w0 d1' w1) := S2
                clear R1 S2 hrot
                have hA := HI.out d1' w1 a st mid HZ1.out (by omega) SV.out (by omega) (by omega) (by omega) HP.out.2.1 HP.out.2.2.1
                go_wp2_with fail
                refine hA.mono ?_
                rintro e w2 ⟨rfl, d2', T1, T2, T3⟩
                have HT : Hid (Stab (atV d0 d1 d2) a mid d1' d2' ∧ Asc (atV d0 d1 d2) a mid d2') := ⟨T1, T2⟩
                have HZ2 : Hid (d2'.size = dk.size) := T1.size.trans HZ1.out
                have SW2 : Aside (Sv base g cap Bd #[I d0, I d1, I d2] w0 d2' w2) := T3
                clear hA T1 T2 T3
                clear SV
                have hB := HI.out d2' w2 mid en b HZ2.out (by omega) SW2.out (by omega) (by omega) (by omega) (HT.out.1.asc HP.out.2.2.2.1 (Or.inl (Nat.le_refl _))) (HT.out.1.asc HP.out.2.2.2.2.1 (Or.inl (by omega)))
                clear SW2
                go_wp2_with fail
                refine hB.mono ?_
                rintro e w3 ⟨rfl, d3, T1, T2, T3⟩
                have HF3 : Hid (∃ d', Stab (atV d0 d1 d2) a b dk d' ∧ Asc (atV d0 d1 d2) a b d' ∧ Sv base g cap Bd #[I d0, I d1, I d2] w0 d' w3) := by
                  obtain ⟨p1, p2⟩ := merge_join (by omega) (by omega) HP.out.1 HP.out.2.2.2.2.2 HT.out.1 HT.out.2 T1 T2
                  exact ⟨d3, p1, p2, T3⟩
                clear hB T1 T2 T3
                go_wp2
                (try simp only [Exit.inBlock, Exit.then])
                first | exact bodyPost_end (results_none rfl _ _ _) rfl ⟨rfl, HF3.out⟩ | exact bodyPost_ret (results_none rfl _ _ _) rfl ⟨rfl, HF3.out⟩
              · have f6 : decide ((en : Int) < (b : Int)) = false := decide_eq_false (by omega)
                have f6n : ¬ (en : Int) < (b : Int) := by omega
                exfalso
                have h1 := Hmid.out
                have h2 := Hen.out
                omega
            · have f3 : decide ((a : Int) < (st : Int)) = false := decide_eq_false (by omega)
              have f3n : ¬ (a : Int) < (st : Int) := by omega
              have f5 : (mid : Int) < (en : Int) := by omega
              rcases Nat.lt_or_ge en b with c4 | c4
              · have f6 : (en : Int) < (b : Int) := by omega
                go_wp2_with fail
                refine hrot.mono ?_
                rintro e w1 ⟨rfl, d1', R1, S2⟩
                have HZ1 : Hid (d1'.size = dk.size) := R1.size
                have HP : Hid (Stab (atV d0 d1 d2) a b dk d1' ∧ Asc (atV d0 d1 d2) a st d1' ∧ Asc (atV d0 d1 d2) st mid d1' ∧ Asc (atV d0 d1 d2) mid en d1' ∧ Asc (atV d0 d1 d2) en b d1' ∧ (∀ i j, a ≤ i → i < mid → mid ≤ j → j < b → atV d0 d1 d2 d1'[i]! ≤ atV d0 d1 d2 d1'[j]!)) := HF.out st en mid d1' HCut.out R1
                have SV : Aside (Sv base g cap Bd #[I d0, I d1, I d2] w0 d1' w1) := S2
                clear R1 S2 hrot
                obtain ⟨d2', HT, HZ2⟩ : ∃ d2', Hid ((Stab (atV d0 d1 d2) a mid d1' d2' ∧ Asc (atV d0 d1 d2) a mid d2') ∧ Sv base g cap Bd #[I d0, I d1, I d2] w0 d2' w1) ∧ Hid (d2'.size = dk.size) := ⟨d1', ⟨⟨Stab.refl _ _ _, (by have h := HP.out.2.2.1; rwa [show st = a by omega] at h)⟩, SV.out⟩, HZ1.out⟩
                have SW2 : Aside (Sv base g cap Bd #[I d0, I d1, I d2] w0 d2' w1) := HT.out.2
                replace HT : Hid (Stab (atV d0 d1 d2) a mid d1' d2' ∧ Asc (atV d0 d1 d2) a mid d2') := HT.out.1
                clear SV
                have hB := HI.out d2' w1 mid en b HZ2.out (by omega) SW2.out (by omega) (by omega) (by omega) (HT.out.1.asc HP.out.2.2.2.1 (Or.inl (Nat.le_refl _))) (HT.out.1.asc HP.out.2.2.2.2.1 (Or.inl (by omega)))
                clear SW2
                go_wp2_with fail
                refine hB.mono ?_
                rintro e w3 ⟨rfl, d3, T1, T2, T3⟩
                have HF3 : Hid (∃ d', Stab (atV d0 d1 d2) a b dk d' ∧ Asc (atV d0 d1 d2) a b d' ∧ Sv base g cap Bd #[I d0, I d1, I d2] w0 d' w3) := by
                  obtain ⟨p1, p2⟩ := merge_join (by omega) (by omega) HP.out.1 HP.out.2.2.2.2.2 HT.out.1 HT.out.2 T1 T2
                  exact ⟨d3, p1, p2, T3⟩
                clear hB T1 T2 T3
                go_wp2
                (try simp only [Exit.inBlock, Exit.then])
                first | exact bodyPost_end (results_none rfl _ _ _) rfl ⟨rfl, HF3.out⟩ | exact bodyPost_ret (results_none rfl _ _ _) rfl ⟨rfl, HF3.out⟩
              · have f6 : decide ((en : Int) < (b : Int)) = false := decide_eq_false (by omega)
                have f6n : ¬ (en : Int) < (b : Int) := by omega
                go_wp2_with fail
                refine hrot.mono ?_
                rintro e w1 ⟨rfl, d1', R1, S2⟩
                have HZ1 : Hid (d1'.size = dk.size) := R1.size
                have HP : Hid (Stab (atV d0 d1 d2) a b dk d1' ∧ Asc (atV d0 d1 d2) a st d1' ∧ Asc (atV d0 d1 d2) st mid d1' ∧ Asc (atV d0 d1 d2) mid en d1' ∧ Asc (atV d0 d1 d2) en b d1' ∧ (∀ i j, a ≤ i → i < mid → mid ≤ j → j < b → atV d0 d1 d2 d1'[i]! ≤ atV d0 d1 d2 d1'[j]!)) := HF.out st en mid d1' HCut.out R1
                have SV : Aside (Sv base g cap Bd #[I d0, I d1, I d2] w0 d1' w1) := S2
                clear R1 S2 hrot
                obtain ⟨d2', HT, HZ2⟩ : ∃ d2', Hid ((Stab (atV d0 d1 d2) a mid d1' d2' ∧ Asc (atV d0 d1 d2) a mid d2') ∧ Sv base g cap Bd #[I d0, I d1, I d2] w0 d2' w1) ∧ Hid (d2'.size = dk.size) := ⟨d1', ⟨⟨Stab.refl _ _ _, (by have h := HP.out.2.2.1; rwa [show st = a by omega] at h)⟩, SV.out⟩, HZ1.out⟩
                have SW2 : Aside (Sv base g cap Bd #[I d0, I d1, I d2] w0 d2' w1) := HT.out.2
                replace HT : Hid (Stab (atV d0 d1 d2) a mid d1' d2' ∧ Asc (atV d0 d1 d2) a mid d2') := HT.out.1
                clear SV
                have HF3 : Hid (∃ d', Stab (atV d0 d1 d2) a b dk d' ∧ Asc (atV d0 d1 d2) a b d' ∧ Sv base g cap Bd #[I d0, I d1, I d2] w0 d' w1) := by
                  obtain ⟨p1, p2⟩ := merge_join (by omega) (by omega) HP.out.1 HP.out.2.2.2.2.2 HT.out.1 HT.out.2 (Stab.refl mid b d2') (by have h := HT.out.1.asc HP.out.2.2.2.1 (Or.inl (Nat.le_refl _)); rwa [show en = b by omega] at h)
                  exact ⟨d2', p1, p2, SW2.out⟩
                clear SW2
                go_wp2
                (try simp only [Exit.inBlock, Exit.then])
                first | exact bodyPost_end (results_none rfl _ _ _) rfl ⟨rfl, HF3.out⟩ | exact bodyPost_ret (results_none rfl _ _ _) rfl ⟨rfl, HF3.out⟩
          · obtain rfl : en = m := by omega
            have f1 : (st : Int) < (en : Int) := by omega
            have f2 : decide ((en : Int) < (en : Int)) = false := decide_eq_false (by omega)
            have f2n : ¬ (en : Int) < (en : Int) := by omega
            have f3 : (a : Int) < (st : Int) := by omega
            have f4 : decide ((st : Int) < (mid : Int)) = false := decide_eq_false (by omega)
            have f4n : ¬ (st : Int) < (mid : Int) := by omega
            have f5 : (mid : Int) < (en : Int) := by omega
            have f6 : (en : Int) < (b : Int) := by omega
            exfalso
            omega
        · obtain rfl : st = m := by omega
          have f1 : decide ((st : Int) < (st : Int)) = false := decide_eq_false (by omega)
          have f1n : ¬ (st : Int) < (st : Int) := by omega
          have f3 : (a : Int) < (st : Int) := by omega
          have f5 : decide ((mid : Int) < (en : Int)) = false := decide_eq_false (by omega)
          have f5n : ¬ (mid : Int) < (en : Int) := by omega
          rcases Nat.lt_or_ge st mid with c3 | c3
          · have f4 : (st : Int) < (mid : Int) := by omega
            have HP : Hid (Stab (atV d0 d1 d2) a b dk dk ∧ Asc (atV d0 d1 d2) a st dk ∧ Asc (atV d0 d1 d2) st mid dk ∧ Asc (atV d0 d1 d2) mid en dk ∧ Asc (atV d0 d1 d2) en b dk ∧ (∀ i j, a ≤ i → i < mid → mid ≤ j → j < b → atV d0 d1 d2 dk[i]! ≤ atV d0 d1 d2 dk[j]!)) := HF.out st en mid dk HCut.out (Rot.none (by omega) (by omega))
            have SV : Aside (Sv base g cap Bd #[I d0, I d1, I d2] w0 dk wr) := S1.out
            obtain ⟨d1', ed1⟩ : ∃ d1', d1' = dk := ⟨_, rfl⟩
            rw [← ed1] at SV HP
            obtain ⟨w1, ew1⟩ : ∃ w1, w1 = wr := ⟨_, rfl⟩
            subst ew1
            have HZ1 : Hid (d1'.size = dk.size) := by show _ = _; rw [ed1]
            have HP : Hid (Stab (atV d0 d1 d2) a b dk d1' ∧ Asc (atV d0 d1 d2) a st d1' ∧ Asc (atV d0 d1 d2) st mid d1' ∧ Asc (atV d0 d1 d2) mid en d1' ∧ Asc (atV d0 d1 d2) en b d1' ∧ (∀ i j, a ≤ i → i < mid → mid ≤ j → j < b → atV d0 d1 d2 d1'[i]! ≤ atV d0 d1 d2 d1'[j]!)) := by rw [ed1]; rw [ed1] at HP; exact HP
            clear S1 ed1
            have hA := HI.out d1' w1 a st mid HZ1.out (by omega) SV.out (by omega) (by omega) (by omega) HP.out.2.1 HP.out.2.2.1
            go_wp2_with fail
            refine hA.mono ?_
            rintro e w2 ⟨rfl, d2', T1, T2, T3⟩
            have HT : Hid (Stab (atV d0 d1 d2) a mid d1' d2' ∧ Asc (atV d0 d1 d2) a mid d2') := ⟨T1, T2⟩
            have HZ2 : Hid (d2'.size = dk.size) := T1.size.trans HZ1.out
            have SW2 : Aside (Sv base g cap Bd #[I d0, I d1, I d2] w0 d2' w2) := T3
            clear hA T1 T2 T3
            clear SV
            have HF3 : Hid (∃ d', Stab (atV d0 d1 d2) a b dk d' ∧ Asc (atV d0 d1 d2) a b d' ∧ Sv base g cap Bd #[I d0, I d1, I d2] w0 d' w2) := by
              obtain ⟨p1, p2⟩ := merge_join (by omega) (by omega) HP.out.1 HP.out.2.2.2.2.2 HT.out.1 HT.out.2 (Stab.refl mid b d2') (by have h := HT.out.1.asc HP.out.2.2.2.2.1 (Or.inl (by omega)); rwa [show en = mid by omega] at h)
              exact ⟨d2', p1, p2, SW2.out⟩
            clear SW2
            go_wp2
            (try simp only [Exit.inBlock, Exit.then])
            first | exact bodyPost_end (results_none rfl _ _ _) rfl ⟨rfl, HF3.out⟩ | exact bodyPost_ret (results_none rfl _ _ _) rfl ⟨rfl, HF3.out⟩
          · have f4 : decide ((st : Int) < (mid : Int)) = false := decide_eq_false (by omega)
            have f4n : ¬ (st : Int) < (mid : Int) := by omega
            have HP : Hid (Stab (atV d0 d1 d2) a b dk dk ∧ Asc (atV d0 d1 d2) a st dk ∧ Asc (atV d0 d1 d2) st mid dk ∧ Asc (atV d0 d1 d2) mid en dk ∧ Asc (atV d0 d1 d2) en b dk ∧ (∀ i j, a ≤ i → i < mid → mid ≤ j → j < b → atV d0 d1 d2 dk[i]! ≤ atV d0 d1 d2 dk[j]!)) := HF.out st en mid dk HCut.out (Rot.none (by omega) (by omega))
            have SV : Aside (Sv base g cap Bd #[I d0, I d1, I d2] w0 dk wr) := S1.out
            obtain ⟨d1', ed1⟩ : ∃ d1', d1' = dk := ⟨_, rfl⟩
            rw [← ed1] at SV HP
            obtain ⟨w1, ew1⟩ : ∃ w1, w1 = wr := ⟨_, rfl⟩
            subst ew1
            have HZ1 : Hid (d1'.size = dk.size) := by show _ = _; rw [ed1]
            have HP : Hid (Stab (atV d0 d1 d2) a b dk d1' ∧ Asc (atV d0 d1 d2) a st d1' ∧ Asc (atV d0 d1 d2) st mid d1' ∧ Asc (atV d0 d1 d2) mid en d1' ∧ Asc (atV d0 d1 d2) en b d1' ∧ (∀ i j, a ≤ i → i < mid → mid ≤ j → j < b → atV d0 d1 d2 d1'[i]! ≤ atV d0 d1 d2 d1'[j]!)) := by rw [ed1]; rw [ed1] at HP; exact HP
            clear S1 ed1
            obtain ⟨d2', HT, HZ2⟩ : ∃ d2', Hid ((Stab (atV d0 d1 d2) a mid d1' d2' ∧ Asc (atV d0 d1 d2) a mid d2') ∧ Sv base g cap Bd #[I d0, I d1, I d2] w0 d2' w1) ∧ Hid (d2'.size = dk.size) := ⟨d1', ⟨⟨Stab.refl _ _ _, (by have h := HP.out.2.1; rwa [show st = mid by omega] at h)⟩, SV.out⟩, HZ1.out⟩
            have SW2 : Aside (Sv base g cap Bd #[I d0, I d1, I d2] w0 d2' w1) := HT.out.2
            replace HT : Hid (Stab (atV d0 d1 d2) a mid d1' d2' ∧ Asc (atV d0 d1 d2) a mid d2') := HT.out.1
            clear SV
            have HF3 : Hid (∃ d', Stab (atV d0 d1 d2) a b dk d' ∧ Asc (atV d0 d1 d2) a b d' ∧ Sv base g cap Bd #[I d0, I d1, I d2] w0 d' w1) := by
              obtain ⟨p1, p2⟩ := merge_join (by omega) (by omega) HP.out.1 HP.out.2.2.2.2.2 HT.out.1 HT.out.2 (Stab.refl mid b d2') (by have h := HT.out.1.asc HP.out.2.2.2.2.1 (Or.inl (by omega)); rwa [show en = mid by omega] at h)
              exact ⟨d2', p1, p2, SW2.out⟩
            clear SW2
            go_wp2
            (try simp only [Exit.inBlock, Exit.then])
            first | exact bodyPost_end (results_none rfl _ _ _) rfl ⟨rfl, HF3.out⟩ | exact bodyPost_ret (results_none rfl _ _ _) rfl ⟨rfl, HF3.out⟩

/-- Any two runs. -/
theorem merges_all [Inhabited Pl] {base g cap Bd : Nat} {d0 d1 d2 : Int} {w0 : World} (hc : CmpP d0 d1 d2 Bd) {N : Nat} (hN : N ≤ 100000) : ∀ n, Merges d0 d1 d2 base g cap Bd w0 n N
  | 0 => fun dk W a m b _ hn _ h1 h2 _ _ _ => by omega
  | n + 1 => fun dk W a m b hs hn S h1 h2 hb A1 A2 => by
    subst hs
    by_cases c1 : m = a + 1
    · exact symA_calls S hc hN c1 h2 hb A2
    · by_cases c2 : b = m + 1
      · exact symB_calls S hc hN (show a + 1 < m by omega) c2 hb A1
      · exact symC_calls (nn := n) (merges_all hc hN n) S hc hN (by omega) (by omega) hb hn A1 A2

end Go.Proofs.YtlahfffgmfjpaaaGreatDoor
