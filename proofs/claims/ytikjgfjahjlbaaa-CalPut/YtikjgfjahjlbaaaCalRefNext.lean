/-
  The document's Next (tidehallref08): what it answers. (Written by tools/gen/cal_refnext.py.)
-/
import Derived.Test.YtikjgfjahjlbaaaCalRefCalls
namespace Go.Proofs.Ytikjgfjahjlbaaa
open Go Go.RowKit Go.Shelf

attribute [local go_sem] Oper.semAt_some ext_const

def optV : Option Int → Int | none => -1 | some n => n
/-- The moments that Next looks at. -/
def candL (c : List Slt) (a : Int) : List Int := a :: c.map fun s => s.2.1
/-- The best of the first k of them is b, or there is none and b is -1. -/
def Nb (c : List Slt) (a long : Int) (k : Nat) (b : Int) : Prop := ∃ ob, ((candL c a).take k).foldl (leastN (okF c a long)) none = ob ∧ optV ob = b ∧ ∀ n, ob = some n → 0 ≤ n
theorem Nb.start (c : List Slt) (a long : Int) : Nb c a long 0 (-1) := ⟨none, rfl, rfl, fun n h => (by cases h)⟩
theorem Nb.snoc {c : List Slt} {a long p : Int} {k : Nat} (hk : (candL c a)[k]? = some p) (ob : Option Int) (h : ((candL c a).take k).foldl (leastN (okF c a long)) none = ob) : ((candL c a).take (k + 1)).foldl (leastN (okF c a long)) none = leastN (okF c a long) ob p := by
  obtain ⟨hlt, he⟩ := List.getElem?_eq_some_iff.1 hk
  rw [List.take_succ_eq_append_getElem hlt, List.foldl_append, h, he]
  rfl
theorem Nb.stay {c : List Slt} {a long p b : Int} {k : Nat} (N : Nb c a long k b) (hk : (candL c a)[k]? = some p) (h : okF c a long p = false ∨ (0 ≤ b ∧ b ≤ p)) : Nb c a long (k + 1) b := by
  obtain ⟨ob, h1, h2, h3⟩ := N
  refine ⟨leastN (okF c a long) ob p, Nb.snoc hk ob h1, ?_⟩
  have : leastN (okF c a long) ob p = ob := by
    unfold leastN
    rcases h with h | ⟨h4, h5⟩
    · rw [if_neg (by rw [h]; decide)]
    · split
      · cases ob with
        | none => rw [← h2] at h4; simp [optV] at h4
        | some x =>
          have : x = b := h2
          dsimp only
          rw [if_neg (by omega)]
      · rfl
  rw [this]
  exact ⟨h2, h3⟩
theorem Nb.take {c : List Slt} {a long p b : Int} {k : Nat} (N : Nb c a long k b) (hk : (candL c a)[k]? = some p) (hp : 0 ≤ p) (ho : okF c a long p = true) (h : ¬ (0 ≤ b ∧ b ≤ p)) : Nb c a long (k + 1) p := by
  obtain ⟨ob, h1, h2, h3⟩ := N
  refine ⟨leastN (okF c a long) ob p, Nb.snoc hk ob h1, ?_⟩
  have : leastN (okF c a long) ob p = some p := by
    unfold leastN
    rw [if_pos ho]
    cases ob with
    | none => rfl
    | some x =>
      have h4 : x = b := h2
      have := h3 x rfl
      dsimp only
      rw [if_pos (by omega)]
  rw [this]
  exact ⟨rfl, fun n h => by cases h; exact hp⟩
theorem Nb.end {c : List Slt} {a long b : Int} {k : Nat} (N : Nb c a long k b) (hk : k = c.length + 1) : (b < 0 → nextC c a long = none) ∧ (0 ≤ b → nextC c a long = some b) := by
  obtain ⟨ob, h1, h2, h3⟩ := N
  rw [List.take_of_length_le (by simp [candL]; omega)] at h1
  have h1 : nextC c a long = ob := h1
  rw [h1]
  cases ob with
  | none =>
    have : (-1 : Int) = b := h2
    exact ⟨fun _ => rfl, fun h => by omega⟩
  | some x =>
    have h4 : x = b := h2
    have := h3 x rfl
    exact ⟨fun h => by omega, fun _ => by rw [h4]⟩
theorem okF_lo {c : List Slt} {a long p : Int} (h : p < a) : okF c a long p = false := by unfold okF; rw [decide_eq_false (by omega)]; rfl
theorem okF_hi {c : List Slt} {a long p : Int} (h : 1099511627776 - p < long) : okF c a long p = false := by
  unfold okF
  rw [show decide (long ≤ 1099511627776 - p) = false from decide_eq_false (by omega)]
  simp
theorem okF_at {c : List Slt} {a long p : Int} (h : ¬ p < a) (h1 : ¬ 1099511627776 - p < long) : okF c a long p = clearC c p (p + long) := by
  unfold okF
  rw [decide_eq_true (show a ≤ p by omega), decide_eq_true (show long ≤ 1099511627776 - p by omega)]
  rfl

set_option maxRecDepth 100000 in
set_option maxHeartbeats 16000000 in
theorem rnext_calls {xs : List Slt} {v : Value} {a long : Int} (w : World) (hS : Ss w v xs) (hn : xs.length ≤ 10000) : Calls Try.prog 26 #[v, I a, I long] w fun e W' => e = .returned (.tuple #[I (nextV xs a long), I (nextE xs a long)]) ∧ Below w.heap.size w W' := by
  obtain ⟨ao, cap, rfl, hS⟩ := hS.form
  have HS : Hid (Ss w (.slice ao xs.length cap) xs) := hS
  clear hS
  by_cases hm : mayC xs
  · have em := mayCB_iff.2 hm
    have HC := may_at (v := .slice ao xs.length cap) hn em
    by_cases ha : 0 ≤ a ∧ a < 1099511627776 ∧ 1 ≤ long
    · have HV : Hid (∀ n, nextC xs a long = some n → nextV xs a long = n ∧ nextE xs a long = 0) := fun n h => by simp [nextV, nextE, em, askN_yes ha, h]
      have HN : Hid (nextC xs a long = none → nextV xs a long = 0 ∧ nextE xs a long = 6) := fun h => by simp [nextV, nextE, em, askN_yes ha, h]
      have HL : Hid (∀ x w, Ss w (.slice ao xs.length cap) xs → Calls Try.prog 38 #[.slice ao xs.length cap, S2 x (x + long)] w fun e W' => e = .returned (.bool (clearC xs x (x + long))) ∧ Below w.heap.size w W') := fun x w h => rclear_calls w h (by omega)
      have HM : Hid (mayC xs) := hm
      obtain ⟨ha0, ha1, hl1⟩ := ha
      have d0 : decide (a < 0) = false := decide_eq_false (by omega)
      have d1 : decide ((1099511627776 : Int) ≤ a) = false := decide_eq_false (by omega)
      have d2 : decide (long < 1) = false := decide_eq_false (by omega)
      clear hm em
      generalize nextV xs a long = rv at *
      generalize nextE xs a long = re at *
      go_enter Try.func26, Try.ntmps26
      go_wp2_with fail
      refine (HC.out _ HS.out).mono ?_
      rintro e W ⟨rfl, hT3⟩
      have HS3 : Hid (Ss W (.slice ao xs.length cap) xs) := HS.out.later hT3
      go_wp2
      go_loopw [8, 9] (fun u i wr => ∃ (b j : Int), u = .int .i64 b ∧ i = .int .i64 j ∧ ((j = -1 ∧ b = -1) ∨ ∃ m : Nat, m ≤ xs.length ∧ j = (m : Int) ∧ Hid (Nb xs a long (m + 1) b)) ∧ Below W.heap.size W wr) (fun _ i _ => ((xs.length : Int) - intOf i).toNat)
      case atStart => exact ⟨-1, -1, rfl, rfl, .inl ⟨rfl, rfl⟩, Below.refl _ _⟩
      case round =>
        obtain ⟨b, j, rfl, rfl, hj, hT⟩ := hrel
        rcases hj with ⟨rfl, rfl⟩ | ⟨m, hmm, rfl, HB⟩
        · have hcl := Nb.start xs a long
          have hca : (candL xs a)[0]? = some a := rfl
          have hlt : (-1 : Int) < (xs.length : Int) := by omega
          have HS4 : Hid (Ss wr (.slice ao xs.length cap) xs) := HS3.out.later hT
          have da : decide (a < a) = false := decide_eq_false (by omega)
          by_cases h1 : 1099511627776 - a < long
          · have HB1 : Hid (Nb xs a long (0 + 1) (-1)) := hcl.stay hca (.inl (okF_hi h1))
            clear hcl hca
            go_wp2
            go_roundw
            case rel => exact ⟨-1, 0, rfl, rfl, .inr ⟨0, by omega, rfl, HB1⟩, hT⟩
            case measure => simp [intOf]
          · have ho := okF_at (c := xs) (show ¬ a < a by omega) h1
            have hw : -9223372036854775808 ≤ a + long ∧ a + long ≤ 9223372036854775807 := by omega
            have HL1 : Hid (∀ w, Ss w (.slice ao xs.length cap) xs → Calls Try.prog 38 #[.slice ao xs.length cap, S2 a (a + long)] w fun e W' => e = .returned (.bool (clearC xs a (a + long))) ∧ Below w.heap.size w W') := HL.out a
            have h1 : decide (1099511627776 - a < long) = false := decide_eq_false h1
            cases hc : clearC xs a (a + long)
            · have HB1 : Hid (Nb xs a long (0 + 1) (-1)) := hcl.stay hca (.inl (ho.trans hc))
              rw [hc] at HL1
              clear hcl hca ho hc
              go_wp2_with fail
              refine (HL1.out _ HS4.out).mono ?_
              rintro e w2 ⟨rfl, hB2⟩
              go_wp2
              go_roundw
              case rel => exact ⟨-1, 0, rfl, rfl, .inr ⟨0, by omega, rfl, HB1⟩, then_below hT hB2⟩
              case measure => simp [intOf]
            · have HB1 : Hid (Nb xs a long (0 + 1) a) := hcl.take hca ha0 (ho.trans hc) (by omega)
              rw [hc] at HL1
              clear hcl hca ho hc
              go_wp2_with fail
              refine (HL1.out _ HS4.out).mono ?_
              rintro e w2 ⟨rfl, hB2⟩
              go_wp2
              go_roundw
              case rel => exact ⟨a, 0, rfl, rfl, .inr ⟨0, by omega, rfl, HB1⟩, then_below hT hB2⟩
              case measure => simp [intOf]
        · by_cases hlt : (m : Int) < (xs.length : Int)
          · have hm' : m < xs.length := by omega
            have HS4 : Hid (Ss wr (.slice ao xs.length cap) xs) := HS3.out.later hT
            obtain ⟨g, off, f, p, o, rfl, hu, hat⟩ := HS4.out.at hm'
            obtain ⟨hg, c0, c1, c2⟩ := hat.cells
            have hca : (candL xs a)[m + 1]? = some p := by
              simp only [candL, List.getElem?_cons_succ, List.getElem?_map]
              simp [hm'] at hu
              simp [hm', hu]
            have hs := HM.out.1 _ (show xs.getD m (0, 0, 0) ∈ xs by simp [hm'])
            rw [hu] at hs
            have hs1 : 0 ≤ f ∧ f < p ∧ p ≤ 1099511627776 := hs.1
            have hp0 : 0 ≤ p := by omega
            have hp1 := hs1.2.2
            clear hs hs1 hu hat
            have hm0 : (0 : Int) ≤ (m : Int) := by omega
            have HCA : Hid ((candL xs a)[m + 1]? = some p) := hca
            clear hca
            by_cases h0 : p < a
            · have HB1 : Hid (Nb xs a long (m + 1 + 1) b) := HB.out.stay HCA.out (.inl (okF_lo h0))
              go_wp2
              go_roundw
              case rel => exact ⟨b, (m : Int) + 1, rfl, by go_num, .inr ⟨m + 1, by omega, by omega, HB1⟩, hT⟩
              case measure => simp [intOf]; omega
            · by_cases h1 : 1099511627776 - p < long
              · have HB1 : Hid (Nb xs a long (m + 1 + 1) b) := HB.out.stay HCA.out (.inl (okF_hi h1))
                have h0 : decide (p < a) = false := decide_eq_false h0
                go_wp2
                go_roundw
                case rel => exact ⟨b, (m : Int) + 1, rfl, by go_num, .inr ⟨m + 1, by omega, by omega, HB1⟩, hT⟩
                case measure => simp [intOf]; omega
              · have ho := okF_at (c := xs) h0 h1
                have hw : -9223372036854775808 ≤ p + long ∧ p + long ≤ 9223372036854775807 := by omega
                have HL1 : Hid (∀ w, Ss w (.slice (some ⟨g, off, none⟩) xs.length cap) xs → Calls Try.prog 38 #[.slice (some ⟨g, off, none⟩) xs.length cap, S2 p (p + long)] w fun e W' => e = .returned (.bool (clearC xs p (p + long))) ∧ Below w.heap.size w W') := HL.out p
                have HO : Hid (okF xs a long p = clearC xs p (p + long)) := ho
                have h0 : decide (p < a) = false := decide_eq_false h0
                have h1 : decide (1099511627776 - p < long) = false := decide_eq_false h1
                clear ho
                by_cases hb0 : 0 ≤ b
                · by_cases hb1 : b ≤ p
                  · have HB1 : Hid (Nb xs a long (m + 1 + 1) b) := HB.out.stay HCA.out (.inr ⟨hb0, hb1⟩)
                    go_wp2
                    go_roundw
                    case rel => exact ⟨b, (m : Int) + 1, rfl, by go_num, .inr ⟨m + 1, by omega, by omega, HB1⟩, hT⟩
                    case measure => simp [intOf]; omega
                  · have HNB : Hid (¬ (0 ≤ b ∧ b ≤ p)) := fun h => hb1 h.2
                    have hb1 : decide (b ≤ p) = false := decide_eq_false hb1
                    cases hc : clearC xs p (p + long)
                    · have HB1 : Hid (Nb xs a long (m + 1 + 1) b) := HB.out.stay HCA.out (.inl (HO.out.trans hc))
                      rw [hc] at HL1
                      clear hc
                      go_wp2_with fail
                      refine (HL1.out _ HS4.out).mono ?_
                      rintro e w2 ⟨rfl, hB2⟩
                      go_wp2
                      go_roundw
                      case rel => exact ⟨b, (m : Int) + 1, rfl, by go_num, .inr ⟨m + 1, by omega, by omega, HB1⟩, then_below hT hB2⟩
                      case measure => simp [intOf]; omega
                    · have HB1 : Hid (Nb xs a long (m + 1 + 1) p) := HB.out.take HCA.out hp0 (HO.out.trans hc) HNB.out
                      rw [hc] at HL1
                      clear hc
                      go_wp2_with fail
                      refine (HL1.out _ HS4.out).mono ?_
                      rintro e w2 ⟨rfl, hB2⟩
                      go_wp2
                      go_roundw
                      case rel => exact ⟨p, (m : Int) + 1, rfl, by go_num, .inr ⟨m + 1, by omega, by omega, HB1⟩, then_below hT hB2⟩
                      case measure => simp [intOf]; omega
                · have HNB : Hid (¬ (0 ≤ b ∧ b ≤ p)) := fun h => hb0 h.1
                  have hb0 : decide (0 ≤ b) = false := decide_eq_false hb0
                  cases hc : clearC xs p (p + long)
                  · have HB1 : Hid (Nb xs a long (m + 1 + 1) b) := HB.out.stay HCA.out (.inl (HO.out.trans hc))
                    rw [hc] at HL1
                    clear hc
                    go_wp2_with fail
                    refine (HL1.out _ HS4.out).mono ?_
                    rintro e w2 ⟨rfl, hB2⟩
                    go_wp2
                    go_roundw
                    case rel => exact ⟨b, (m : Int) + 1, rfl, by go_num, .inr ⟨m + 1, by omega, by omega, HB1⟩, then_below hT hB2⟩
                    case measure => simp [intOf]; omega
                  · have HB1 : Hid (Nb xs a long (m + 1 + 1) p) := HB.out.take HCA.out hp0 (HO.out.trans hc) HNB.out
                    rw [hc] at HL1
                    clear hc
                    go_wp2_with fail
                    refine (HL1.out _ HS4.out).mono ?_
                    rintro e w2 ⟨rfl, hB2⟩
                    go_wp2
                    go_roundw
                    case rel => exact ⟨p, (m : Int) + 1, rfl, by go_num, .inr ⟨m + 1, by omega, by omega, HB1⟩, then_below hT hB2⟩
                    case measure => simp [intOf]; omega
          · obtain rfl : m = xs.length := by omega
            obtain ⟨hE0, hE1⟩ := HB.out.end rfl
            by_cases hb : b < 0
            · obtain ⟨e1, e2⟩ := HN.out (hE0 hb)
              subst e1 e2
              clear hE0 hE1
              go_wp2
              go_ret2
              exact ⟨rfl, then_below hT3 hT⟩
            · obtain ⟨e1, e2⟩ := HV.out b (hE1 (by omega))
              have hb : decide (b < 0) = false := decide_eq_false hb
              subst e1 e2
              clear hE0 hE1
              go_wp2
              go_ret2
              exact ⟨rfl, then_below hT3 hT⟩
    · rw [show nextV xs a long = 0 by simp [nextV, askN_no ha], show nextE xs a long = 2 by simp [nextE, em, askN_no ha]]
      by_cases h0 : a < 0
      · clear hm em ha
        go_enter Try.func26, Try.ntmps26
        go_wp2_with fail
        refine (HC.out _ HS.out).mono ?_
        rintro e w1 ⟨rfl, hT⟩
        go_wp2
        go_ret2
        exact ⟨rfl, hT⟩
      · by_cases h1 : (1099511627776 : Int) ≤ a
        · have h0 : decide (a < 0) = false := decide_eq_false h0
          clear hm em ha
          go_enter Try.func26, Try.ntmps26
          go_wp2_with fail
          refine (HC.out _ HS.out).mono ?_
          rintro e w1 ⟨rfl, hT⟩
          go_wp2
          go_ret2
          exact ⟨rfl, hT⟩
        · have h2 : long < 1 := by omega
          have h0 : decide (a < 0) = false := decide_eq_false h0
          have h1 : decide ((1099511627776 : Int) ≤ a) = false := decide_eq_false h1
          clear hm em ha
          go_enter Try.func26, Try.ntmps26
          go_wp2_with fail
          refine (HC.out _ HS.out).mono ?_
          rintro e w1 ⟨rfl, hT⟩
          go_wp2
          go_ret2
          exact ⟨rfl, hT⟩
  · have em := mayCB_no hm
    have HC := may_at (v := .slice ao xs.length cap) hn em
    rw [show nextV xs a long = 0 by simp [nextV, em], show nextE xs a long = 8 by simp [nextE, em]]
    clear hm em
    go_enter Try.func26, Try.ntmps26
    go_wp2_with fail
    refine (HC.out _ HS.out).mono ?_
    rintro e w1 ⟨rfl, hT⟩
    go_wp2
    go_ret2
    exact ⟨rfl, hT⟩

end Go.Proofs.Ytikjgfjahjlbaaa
