/-
  spots.lying as a range asks of it: the places of a shape as it lies.
-/
import Derived.Test.YtlahfffgmfjpaaaGreatDoorPart27
import Derived.Sort.LoopGhostIn
namespace Go.Proofs.YtlahfffgmfjpaaaGreatDoor
open Go Go.RowKit Go.Shelf Go.Maps

attribute [local go_sem] Oper.semAt_some ext_const ixI0 ixI1 ixI2

abbrev C7 (u : Wt) : Array Value := #[I u.1, I u.2.1, I u.2.2.1, .bool u.2.2.2.1, .bool u.2.2.2.2.1, .bool u.2.2.2.2.2.1, .bool u.2.2.2.2.2.2]
set_option maxRecDepth 100000 in
theorem lying_calls (d0 d1 d2 : Int) (u : Wt) (w : World) : Calls Tryz.prog 43 #[A3 d0 d1 d2, W7 u] w fun e W' => e = .returned (.func (.func 68) #[] #[.pointer (some ⟨w.heap.size, 0, none⟩), .pointer (some ⟨w.heap.size + 1, 0, none⟩)]) ∧ W' = (w.alloc (.cells #[I d0, I d1, I d2] 23)).alloc (.cells (C7 u) 26) := by
  obtain ⟨x, y, z, p, q, r, t⟩ := u
  go_enter Tryz.func43, Tryz.ntmps43
  go_wp2
  go_ret
  exact ⟨by simp, rfl⟩

/-- The first m midplanes' ones. -/
def lyP (d0 d1 d2 : Int) (u : Wt) (m : Nat) : List Pl := ((List.range m).map fun (k : Nat) => plT d0 d1 k u).filter (mayL d0 d1 d2)
theorem lyP_yes {d0 d1 d2 : Int} {u : Wt} {m : Nat} (h : mayL d0 d1 d2 (plT d0 d1 m u) = true) : lyP d0 d1 d2 u (m + 1) = lyP d0 d1 d2 u m ++ [plT d0 d1 m u] := by
  simp [lyP, List.range_succ, List.filter_append, h]
theorem lyP_no {d0 d1 d2 : Int} {u : Wt} {m : Nat} (h : mayL d0 d1 d2 (plT d0 d1 m u) = false) : lyP d0 d1 d2 u (m + 1) = lyP d0 d1 d2 u m := by
  simp [lyP, List.range_succ, List.filter_append, h]
theorem lyP_next {d0 d1 d2 : Int} {u : Wt} {m : Nat} (hm : m < (d0 * d1 * d2).toNat) (h : mayL d0 d1 d2 (plT d0 d1 m u) = true) : lyP d0 d1 d2 u m ++ [plT d0 d1 m u] <+: lyL d0 d1 d2 u := by
  rw [← lyP_yes h]
  exact filter_pre _ (map_pre _ (range_pre hm))

set_option maxRecDepth 100000 in
set_option maxHeartbeats 8000000 in
theorem lying_seq {d0 d1 d2 : Int} (hd : mayD d0 d1 d2) (u : Wt) (ok : TypeId → Bool) (ok1 : ok 23 = true) (ok2 : ok 26 = true) {Bd Bw : Nat} (w : World) (hBd : Blk w Bd 23 #[I d0, I d1, I d2]) (hBw : Blk w Bw 26 (C7 u)) :
    SeqO Tryz.prog 68 #[.pointer (some ⟨Bd, 0, none⟩), .pointer (some ⟨Bw, 0, none⟩)] encP ok (lyL d0 d1 d2 u) w := fun l J Jx W hW hJ hJx hY h0 => by
  have HY : Hid (∀ (pre : List Pl) (x : Pl) (W1 : World), pre ++ [x] <+: lyL d0 d1 d2 u → J pre W1 → YieldAt Fence.wide 0 Tryz.prog l (encP x) W1 fun e W' => (e = .returned (.bool true) ∧ J (pre ++ [x]) W' ∧ KeepT ok W1 W' ∧ KeepsFrom W.heap.size W1 W') ∨ (e = .returned (.bool false) ∧ Jx (pre ++ [x]) W' ∧ KeepsFrom W.heap.size W1 W')) := hY
  have hD0 := hBd.later hW
  have hW0 := hBw.later hW
  have HO : Hid (ok 23 = true ∧ ok 26 = true) := ⟨ok1, ok2⟩
  have HJ : Hid (OwnFrom W.heap.size J ∧ OwnFrom W.heap.size Jx) := ⟨hJ, hJx⟩
  have hb := N_bd hd
  obtain ⟨N, hN⟩ : ∃ N : Nat, d0 * d1 * d2 = N := ⟨(d0 * d1 * d2).toNat, by omega⟩
  have HM : Hid (∀ w, Calls Tryz.prog 40 #[A3 d0 d1 d2] w fun e W' => e = .returned (.tuple #[I N, I 0]) ∧ Below w.heap.size w W') := fun w => by rw [← hN]; exact many_yes w hd
  have HF : Hid (∀ (m : Nat) (w : World), m < N → Calls Tryz.prog 69 #[A3 d0 d1 d2, I m] w fun x W' => x = .returned (.tuple #[A3 (cx d0 m) (cy d0 d1 m) (cz d0 d1 m), I 0]) ∧ Below w.heap.size w W') := fun m w h => of_yes w hd ⟨by omega, by rw [hN]; omega⟩
  have HC : Hid (∀ (b : Bx) (p q r : Bool) (w : World), Calls Tryz.prog 25 #[A3 d0 d1 d2, P9 b p q r] w fun e W' => e = .returned (I (errP d0 d1 d2 b p q r)) ∧ Below w.heap.size w W') := fun b p q r w => pcheck_calls d0 d1 d2 b p q r w
  have HE : Hid (lyP d0 d1 d2 u N = lyL d0 d1 d2 u) := by
    show lyP _ _ _ _ _ = _
    unfold lyL
    rw [hN, Int.toNat_natCast]
    rfl
  have HNx : Hid (∀ m : Nat, m < N → (errP d0 d1 d2 (plT d0 d1 m u).1 (plT d0 d1 m u).2.1 (plT d0 d1 m u).2.2.1 (plT d0 d1 m u).2.2.2 = 0 ∧ lyP d0 d1 d2 u m ++ [plT d0 d1 m u] <+: lyL d0 d1 d2 u ∧ lyP d0 d1 d2 u (m + 1) = lyP d0 d1 d2 u m ++ [plT d0 d1 m u]) ∨ (errP d0 d1 d2 (plT d0 d1 m u).1 (plT d0 d1 m u).2.1 (plT d0 d1 m u).2.2.1 (plT d0 d1 m u).2.2.2 ≠ 0 ∧ lyP d0 d1 d2 u (m + 1) = lyP d0 d1 d2 u m)) := fun m hm => by
    cases h : mayL d0 d1 d2 (plT d0 d1 m u)
    · refine .inr ⟨?_, lyP_no h⟩
      rcases errP_cases d0 d1 d2 (plT d0 d1 m u).1 (plT d0 d1 m u).2.1 (plT d0 d1 m u).2.2.1 (plT d0 d1 m u).2.2.2 with ⟨_, h2, _⟩ | ⟨h2, _⟩
      · rw [mayL_iff.2 h2] at h; cases h
      · rcases h2 with h2 | h2 <;> rw [h2] <;> decide
    · exact .inl ⟨errP_ok hd (mayL_iff.1 h), lyP_next (by rw [hN]; simpa using hm) h, lyP_yes h⟩
  have hN2 : N ≤ 4096 := by omega
  clear hY hBd hBw hd hJ hJx ok1 ok2 hb hN
  obtain ⟨x, y, z, p, q, r, t⟩ := u
  generalize lyL d0 d1 d2 (x, y, z, p, q, r, t) = L at *
  generalize hG : lyP d0 d1 d2 (x, y, z, p, q, r, t) = G at *
  have hG0 : G 0 = [] := by rw [← hG]; rfl
  clear hG
  dsimp only [plT] at HNx
  refine (callsIn_wide (n := 3)).1 ?_
  refine callsIn_of_wp Tryz.func68 rfl trivial ?_ rfl
  simp only [Tryz.ntmps68, List.size_toArray, List.length_cons, List.length_nil, Nat.reduceAdd, Nat.reduceSub, Array.replicate_succ, Array.replicate_zero, List.push_toArray, List.append_toArray, List.nil_append, List.cons_append]
  obtain ⟨c0, c1, c2, hz⟩ := hD0.three (Below.refl _ _)
  gi_wp2_with fail
  refine ⟨trivial, (callsIn_wide.2 (HM.out _)).mono ?_⟩
  rintro e w1 ⟨rfl, hB⟩
  have hJ1 : J (G 0) w1 := by rw [hG0]; exact own_below HJ.out.1 h0 hB
  have hD1 := hD0.later hB
  have hW1 := hW0.later hB
  have hsz1 : W.heap.size ≤ w1.heap.size := hB.size
  clear c0 c1 c2 hz hD0 hW0 hB h0 hG0
  gi_wp2
  gi_loopw [18] (fun i wr => ∃ (m : Nat), m ≤ N ∧ i = .int .i64 m ∧ Hid (J (G m) wr) ∧ Blk wr Bd 23 #[I d0, I d1, I d2] ∧ Blk wr Bw 26 (C7 (x, y, z, p, q, r, t))) (fun i _ => N - (RowKit.intOf i).toNat)
  case atStart => exact ⟨0, by omega, rfl, hJ1, hD1, hW1⟩
  case round =>
    clear hJ1 hD1 hW1
    obtain ⟨m, hm, rfl, hJ2, hD2, hW2⟩ := hrel
    by_cases hlt : (m : Int) < (N : Int)
    · have hmN : m < N := by omega
      have hnx := HNx.out m hmN
      have HFm := fun w1 => HF.out m w1 hmN
      generalize cx d0 m = X at *
      generalize cy d0 d1 m = Y at *
      generalize cz d0 d1 m = Z at *
      have HFm : Hid (∀ w1, Calls Tryz.prog 69 #[A3 d0 d1 d2, I m] w1 fun x W' => x = .returned (.tuple #[A3 X Y Z, I 0]) ∧ Below w1.heap.size w1 W') := HFm
      have hc := HC.out ⟨X, Y, Z, x, y, z⟩ p q r
      generalize errP d0 d1 d2 ⟨X, Y, Z, x, y, z⟩ p q r = er at *
      have HCm : Hid (∀ (w : World), Calls Tryz.prog 25 #[A3 d0 d1 d2, P9 ⟨X, Y, Z, x, y, z⟩ p q r] w fun e W' => e = .returned (I er) ∧ Below w.heap.size w W') := hc
      have HX : Hid ((er = 0 ∧ G m ++ [(⟨X, Y, Z, x, y, z⟩, p, q, r)] <+: L ∧ G (m + 1) = G m ++ [(⟨X, Y, Z, x, y, z⟩, p, q, r)]) ∨ (er ≠ 0 ∧ G (m + 1) = G m)) := hnx
      clear hnx hc
      obtain ⟨c0, c1, c2, hz⟩ := hD2.three (Below.refl _ _)
      gi_wp2_with fail
      refine ⟨trivial, (callsIn_wide.2 (HFm.out _)).mono ?_⟩
      rintro e w2 ⟨rfl, hB2⟩
      have HJ3 : Hid (J (G m) w2) := own_below HJ.out.1 hJ2.out hB2
      have hD3 := hD2.later hB2
      have hW3 := hW2.later hB2
      clear c0 c1 c2 hz hJ2 hD2 hW2 hB2
      obtain ⟨c0, c1, c2, hz⟩ := hD3.three (Below.refl _ _)
      obtain ⟨s0, s1, s2, s3, s4, s5, s6⟩ := hW3.seven
      have hz2 := hW3.lt
      obtain ⟨V, hV, hBV, k0, k1⟩ := two_start w2 #[I X, I Y, I Z] (C9 ⟨X, Y, Z, x, y, z⟩ p q r) 22 32
      have HV : Hid ((w2.alloc (.cells #[I X, I Y, I Z] 22)).alloc (.cells (C9 ⟨X, Y, Z, x, y, z⟩ p q r) 32) = V) := hV
      clear hV
      dsimp only at s0 s1 s2 s3 s4 s5 s6
      gi_wp2_with fail
      rw [HV.out]
      refine ⟨trivial, (callsIn_wide.2 (HCm.out _)).mono ?_⟩
      rintro e w3 ⟨rfl, hB3⟩
      have hT : Below w2.heap.size w2 w3 := then_below hBV hB3
      have hJ4 := own_below HJ.out.1 HJ3.out hT
      have hD4 := hD3.later hT
      have hW4 := hW3.later hT
      have hkp := k1.later hB3
      clear c0 c1 c2 hz s0 s1 s2 s3 s4 s5 s6 hz2 hD3 hW3 hBV k0 k1 HJ3 hB3 hT HV
      rcases HX.out with ⟨he, hpre, hgm⟩ | ⟨he, hgm⟩
      · subst he
        obtain ⟨f1, t1, as1, bo1, hy1, hR1⟩ := HY.out (G m) (⟨X, Y, Z, x, y, z⟩, p, q, r) w3 hpre hJ4
        dsimp only [encP, PV, P9] at hy1
        have hR1 := roundIn_any (m := 3 - 1) hR1
        have HP : Hid (G m ++ [(⟨X, Y, Z, x, y, z⟩, p, q, r)] <+: L) := hpre
        have HG : Hid (G (m + 1) = G m ++ [(⟨X, Y, Z, x, y, z⟩, p, q, r)]) := hgm
        have HDW : Hid (Blk w3 Bd 23 #[I d0, I d1, I d2] ∧ Blk w3 Bw 26 (C7 (x, y, z, p, q, r, t))) := ⟨hD4, hW4⟩
        obtain ⟨⟨b0, b1, b2⟩, ⟨b3, b4, b5⟩, ⟨b6, b7, b8⟩, l1⟩ := hkp.nine (Below.refl _ w3)
        clear HX hJ4 hD4 hW4 hpre hgm hkp
        gi_wp2_with fail
        refine hR1.mono ?_
        rintro e W3 (⟨rfl, hJ5, hk5, _⟩ | ⟨rfl, hJx5, _⟩)
        · have HJ5 : Hid (J (G (m + 1)) W3) := by show J _ _; rw [HG.out]; exact hJ5
          have hD5 := hk5.blk HDW.out.1 HO.out.1
          have hW5 := hk5.blk HDW.out.2 HO.out.2
          clear hJ5 hk5 b0 b1 b2 b3 b4 b5 b6 b7 b8 l1 hR1 hy1
          gi_wp2
          go_roundw
          case rel => exact ⟨m + 1, by omega, by go_num, HJ5, hD5, hW5⟩
          case measure => simp [RowKit.intOf]; omega
        · gi_wp2
          refine bodyPost_ret (results_none rfl _ _ _) rfl ?_
          exact ⟨⟨_, rfl⟩, .inr ⟨_, HP.out, hJx5⟩⟩
      · have HJ5 : Hid (J (G (m + 1)) w3) := by show J _ _; rw [hgm]; exact hJ4
        have hE0 : decide (er = 0) = false := by simpa using he
        have hE1 : (er == 0) = false := by simpa using he
        clear HX hJ4 hgm he
        gi_wp2_with fail
        refine ⟨fun _ h => (by cases h), ?_⟩
        gi_wp2
        go_roundw
        case rel => exact ⟨m + 1, by omega, by go_num, HJ5, hD4, hW4⟩
        case measure => simp [RowKit.intOf]; omega
    · obtain rfl : m = N := by omega
      have HFn : Hid (J L wr) := by show J _ _; rw [← HE.out]; exact hJ2.out
      clear hJ2
      gi_wp2
      go_end0
      exact ⟨⟨_, rfl⟩, .inl HFn.out⟩

end Go.Proofs.YtlahfffgmfjpaaaGreatDoor

/-
  spots.places as a range asks of it: the places of each rotation.
-/
namespace Go.Proofs.YtlahfffgmfjpaaaGreatDoor
open Go Go.RowKit Go.Shelf Go.Maps

attribute [local go_sem] Oper.semAt_some ext_const ixI0 ixI1 ixI2

set_option maxRecDepth 100000 in
theorem places_calls (d0 d1 d2 : Int) (u : Wt) (w : World) : Calls Tryz.prog 18 #[A3 d0 d1 d2, W7 u] w fun e W' => e = .returned (.func (.func 42) #[] #[.pointer (some ⟨w.heap.size + 1, 0, none⟩), .pointer (some ⟨w.heap.size, 0, none⟩)]) ∧ W' = (w.alloc (.cells #[I d0, I d1, I d2] 23)).alloc (.cells (C7 u) 26) := by
  obtain ⟨x, y, z, p, q, r, t⟩ := u
  go_enter Tryz.func18, Tryz.ntmps18
  go_wp2
  go_ret
  exact ⟨by simp, rfl⟩

/-- What stays of a call's boxes while others' rounds run. -/
def okP (t : TypeId) : Bool := t == 23 || t == 26 || t == 87
theorem okP_d : okP 23 = true := by decide
theorem okP_w : okP 26 = true := by decide
theorem okP_f : okP 87 = true := by decide

theorem Wl.keep {ok : TypeId → Bool} (ho : ok 26 = true) {W W' : World} {base : Nat} {v : Value} {xs : List Wt} (h : Wl W base v xs) (hk : KeepT ok W W') : Wl W' base v xs := by
  obtain ⟨h1, h2⟩ := h
  refine ⟨h1, ?_⟩
  rcases h2 with h2 | ⟨g, cap, cur, e, hg, hh, r⟩
  · exact .inl h2
  · exact .inr ⟨g, cap, cur, e, hg, hk.2 g cur _ _ hh ho, r⟩
theorem Wl.kept {W W' : World} {base : Nat} {v : Value} {xs : List Wt} (h : Wl W base v xs) {row : Option Nat} (hg : W.grownBy W' row) (hr : ∀ r, row = some r → ∃ o : Obj, W.heap[r]? = some o ∧ o.isCells = false) : Wl W' base v xs := by
  obtain ⟨h1, h2⟩ := h
  refine ⟨h1, ?_⟩
  rcases h2 with h2 | ⟨g, cap, cur, e, hg2, hh, r⟩
  · exact .inl h2
  · exact .inr ⟨g, cap, cur, e, hg2, Blk.kept hh hg hr, r⟩

/-- The first k rotations' places. -/
def plP (d0 d1 d2 : Int) (ts : List Wt) (k : Nat) : List Pl := (ts.take k).flatMap (lyL d0 d1 d2)
theorem plP_succ {d0 d1 d2 : Int} {ts : List Wt} {k : Nat} (hk : k < ts.length) : plP d0 d1 d2 ts (k + 1) = plP d0 d1 d2 ts k ++ lyL d0 d1 d2 (ts.getD k default) := by
  unfold plP
  rw [List.take_succ_eq_append_getElem hk, List.flatMap_append]
  simp [hk]
theorem take_pre {α : Type} (l : List α) (k : Nat) : l.take k <+: l := List.take_prefix k l
theorem plP_next {d0 d1 d2 : Int} {ts : List Wt} {k : Nat} (hk : k < ts.length) {pre : List Pl} {x : Pl} (h : pre ++ [x] <+: lyL d0 d1 d2 (ts.getD k default)) : (plP d0 d1 d2 ts k ++ pre) ++ [x] <+: ts.flatMap (lyL d0 d1 d2) := by
  have h1 : plP d0 d1 d2 ts (k + 1) <+: ts.flatMap (lyL d0 d1 d2) := flat_pre _ (take_pre ts (k + 1))
  rw [plP_succ hk] at h1
  rw [List.append_assoc]
  exact (pre_append h).trans h1

theorem turns_six {u : Wt} (hu : mayT u) : (turnsT u).length ≤ 6 := by
  cases h : turnT u
  · simp [turnsT, h]
  · rcases turns_count hu h with h | h | h <;> omega

/-- What the iterator keeps for itself. -/
structure PlcPv (d0 d1 d2 : Int) (l Bd Bf base : Nat) (v : Value) (ts : List Wt) (W : World) : Prop where
  d : Blk W Bd 23 #[I d0, I d1, I d2]
  f : Blk W Bf 87 #[.func (.yield l) #[] #[]]
  s : Wl W base v ts
section
variable {d0 d1 d2 : Int} {l Bd Bf base : Nat} {v : Value} {ts : List Wt} {W W' : World}
theorem PlcPv.later (h : PlcPv d0 d1 d2 l Bd Bf base v ts W) (hb : Below W.heap.size W W') : PlcPv d0 d1 d2 l Bd Bf base v ts W' := ⟨h.d.later hb, h.f.later hb, h.s.later hb⟩
theorem PlcPv.kept (h : PlcPv d0 d1 d2 l Bd Bf base v ts W) {row : Option Nat} (hg : W.grownBy W' row) (hr : ∀ r, row = some r → ∃ o : Obj, W.heap[r]? = some o ∧ o.isCells = false) : PlcPv d0 d1 d2 l Bd Bf base v ts W' := ⟨h.d.kept hg hr, h.f.kept hg hr, h.s.kept hg hr⟩
theorem PlcPv.keep (h : PlcPv d0 d1 d2 l Bd Bf base v ts W) (hk : KeepT okP W W') : PlcPv d0 d1 d2 l Bd Bf base v ts W' := ⟨hk.blk h.d okP_d, hk.blk h.f okP_f, h.s.keep okP_w hk⟩
end

set_option maxRecDepth 100000 in
set_option maxHeartbeats 8000000 in
theorem places_seq {d0 d1 d2 : Int} (hd : mayD d0 d1 d2) (u : Wt) (hu : mayT u) {Bd Bw : Nat} (w : World) (hO : OrdOk w) (hBd : Blk w Bd 23 #[I d0, I d1, I d2]) (hBw : Blk w Bw 26 (C7 u)) :
    SeqO Tryz.prog 42 #[.pointer (some ⟨Bw, 0, none⟩), .pointer (some ⟨Bd, 0, none⟩)] encP okP (placesL d0 d1 d2 u) w := fun l J Jx W hW hJ hJx hY h0 => by
  have HY : Hid (∀ (pre : List Pl) (x : Pl) (W1 : World), pre ++ [x] <+: placesL d0 d1 d2 u → J pre W1 → YieldAt Fence.wide 0 Tryz.prog l (encP x) W1 fun e W' => (e = .returned (.bool true) ∧ J (pre ++ [x]) W' ∧ KeepT okP W1 W' ∧ KeepsFrom W.heap.size W1 W') ∨ (e = .returned (.bool false) ∧ Jx (pre ++ [x]) W' ∧ KeepsFrom W.heap.size W1 W')) := hY
  have kd0 := hBd.later hW
  have kw0 := hBw.later hW
  have HJ : Hid (OwnFrom W.heap.size J ∧ OwnFrom W.heap.size Jx) := ⟨hJ, hJx⟩
  have HO : Hid (OrdOk W) := hO.later hW
  obtain ⟨x, y, z, p, q, r, t⟩ := u
  have HPl : Hid (∀ w1, Calls Tryz.prog 27 #[V7 x y z p q r t] w1 fun e W' => e = .returned (V7 x y z (p && decide (1 < x)) (q && decide (1 < y)) (r && decide (1 < z)) t) ∧ Below w1.heap.size w1 W') := fun w1 => plain_calls x y z p q r t w1
  have HAll : Hid (∀ w1, OrdOk w1 → Calls Tryz.prog 14 #[V7 x y z (p && decide (1 < x)) (q && decide (1 < y)) (r && decide (1 < z)) t] w1 fun e W' => ∃ v, e = .returned (.tuple #[v, I 0]) ∧ Wl W' w1.heap.size v (turnsT (plainT (x, y, z, p, q, r, t))) ∧ Below w1.heap.size w1 W') := fun w1 h1 => all_yes w1 h1 (mayT_D.1 hu)
  have HD : Hid (mayD d0 d1 d2) := hd
  have HL : Hid (placesL d0 d1 d2 (x, y, z, p, q, r, t) = (turnsT (plainT (x, y, z, p, q, r, t))).flatMap (lyL d0 d1 d2)) := rfl
  have HLy : Hid (∀ (u : Wt) (w1 : World), Calls Tryz.prog 43 #[A3 d0 d1 d2, W7 u] w1 fun e W' => e = .returned (.func (.func 68) #[] #[.pointer (some ⟨w1.heap.size, 0, none⟩), .pointer (some ⟨w1.heap.size + 1, 0, none⟩)]) ∧ W' = (w1.alloc (.cells #[I d0, I d1, I d2] 23)).alloc (.cells (C7 u) 26)) := fun u w1 => lying_calls d0 d1 d2 u w1
  have hts : (turnsT (plainT (x, y, z, p, q, r, t))).length ≤ 6 := turns_six (plain_may.2 hu)
  clear hY hBd hBw hd hJ hJx hO hu
  generalize placesL d0 d1 d2 (x, y, z, p, q, r, t) = L at *
  generalize turnsT (plainT (x, y, z, p, q, r, t)) = ts at *
  generalize (p && decide (1 < x)) = p1 at *
  generalize (q && decide (1 < y)) = q1 at *
  generalize (r && decide (1 < z)) = r1 at *
  refine (callsIn_wide (n := 3)).1 ?_
  refine callsIn_of_wp_marks Tryz.func42 rfl trivial ?_ rfl
  simp only [Tryz.ntmps42, List.size_toArray, List.length_cons, List.length_nil, Nat.reduceAdd, Nat.reduceSub, Array.replicate_succ, Array.replicate_zero, List.push_toArray, List.append_toArray, List.nil_append, List.cons_append]
  dsimp only [C7] at kw0
  obtain ⟨s0, s1, s2, s3, s4, s5, s6⟩ := kw0.seven
  have hz := kw0.lt
  gi_wp2_with fail
  refine ⟨trivial, (callsIn_wide.2 (HPl.out _)).mono ?_⟩
  rintro e w1 ⟨rfl, hB⟩
  have hbU : Below W.heap.size W (W.alloc (.cells #[.func (.yield l) #[] #[]] 87)) := (Below.refl _ W).alloc (Nat.le_refl _) _
  have hT : Below W.heap.size W w1 := then_below hbU hB
  have kf := (Blk.new W 87 #[.func (.yield l) #[] #[]]).later hB
  gi_wp2_with fail
  refine ⟨trivial, (callsIn_wide.2 (HAll.out _ (HO.out.later hT))).mono ?_⟩
  rintro e w2 ⟨v, rfl, hWl, hB2⟩
  have hT2 := then_below hT hB2
  have pv : PlcPv d0 d1 d2 l Bd W.heap.size w1.heap.size v ts w2 := ⟨kd0.later hT2, kf.later hB2, hWl⟩
  have hJ0 : J [] w2 := own_below HJ.out.1 h0 hT2
  have mk : MarkB W.heap.size [] w2 := MarkB.nil _ _
  have HWU : Hid (W.heap.size ≤ w2.heap.size) := hT2.size
  obtain ⟨ao, cap, rfl, _⟩ := hWl.view
  clear s0 s1 s2 s3 s4 s5 s6 hz hbU hT kf hB hB2 hT2 hWl kd0 kw0 h0 HPl HAll HO
  generalize w1.heap.size = base at *
  generalize W.heap.size = Wn at *
  gi_wp2
  refine wpIn_loop_ghost_k (fun n a wr => ∃ (k : Nat) (bs : List Nat) (u7 u8 u20 u21 u22 u23 u24 u25 u26 u27 u28 u29 u30 u31 : Value), n + k = ts.length ∧ a = { tmps := #[.func (.yield l) #[] #[], .pointer (some ⟨Bw, 0, none⟩), .pointer (some ⟨Bd, 0, none⟩), .pointer (some ⟨Wn, 0, none⟩), .slice ao ts.length cap, I 0, undef, u7, u8, .tuple #[.slice ao ts.length cap, I 0], V7 x y z p q r t, V7 x y z p1 q1 r1 t, .tuple #[.slice ao ts.length cap, I 0], .slice ao ts.length cap, I 0, I 0, .bool false, .slice ao ts.length cap, I ts.length, .int .i64 k, u20, u21, u22, u23, u24, u25, u26, u27, u28, u29, u30, u31], defers := markDs bs } ∧ Hid (J (plP d0 d1 d2 ts k) wr) ∧ PlcPv d0 d1 d2 l Bd Wn base (.slice ao ts.length cap) ts wr ∧ MarkB Wn bs wr ∧ Hid (Wn ≤ wr.heap.size)) ts.length ⟨0, [], _, _, _, _, _, _, _, _, _, _, _, _, _, _, by omega, rfl, hJ0, pv, mk, HWU⟩ ?_
  intro n a wr hI Jg K hJg hK
  obtain ⟨k, bs, u7, u8, u20, u21, u22, u23, u24, u25, u26, u27, u28, u29, u30, u31, hn, rfl, hJ1, pv1, mk1, HWU1⟩ := hI
  have HK : Hid ((∀ k a' w', _ → Jg k a' w') ∧ (∀ a' w', Handed Jg n a' w' → K a' w')) := ⟨hJg, hK⟩
  clear hJg hK hJ0 pv mk HWU
  by_cases hlt : (k : Int) < (ts.length : Int)
  · have hk : k < ts.length := by omega
    obtain ⟨g, x', y', z', p', q', r', t', rfl, hu', hat⟩ := pv1.s.at hk
    have HNx : Hid (∀ (pre : List Pl) (x : Pl), pre ++ [x] <+: lyL d0 d1 d2 (x', y', z', p', q', r', t') → (plP d0 d1 d2 ts k ++ pre) ++ [x] <+: L) := fun pre x h => by
      rw [HL.out]
      exact plP_next hk (by rw [hu']; exact h)
    have HS : Hid (plP d0 d1 d2 ts (k + 1) = plP d0 d1 d2 ts k ++ lyL d0 d1 d2 (x', y', z', p', q', r', t')) := by
      show _ = _
      rw [plP_succ hk, hu']
    have HLm : Hid (∀ (w1 : World), Calls Tryz.prog 43 #[A3 d0 d1 d2, V7 x' y' z' p' q' r' t'] w1 fun e W' => e = .returned (.func (.func 68) #[] #[.pointer (some ⟨w1.heap.size, 0, none⟩), .pointer (some ⟨w1.heap.size + 1, 0, none⟩)]) ∧ W' = (w1.alloc (.cells #[I d0, I d1, I d2] 23)).alloc (.cells #[I x', I y', I z', .bool p', .bool q', .bool r', .bool t'] 26)) := fun w1 => HLy.out (x', y', z', p', q', r', t') w1
    obtain ⟨c0, c1, c2, c3, c4, c5, c6⟩ := hat.cells
    have hgz := hat.lt
    obtain ⟨e0, e1, e2, hez⟩ := pv1.d.three (Below.refl _ _)
    clear hu' hat
    generalize hLu : lyL d0 d1 d2 (x', y', z', p', q', r', t') = Lu at *
    have HLu : Hid (lyL d0 d1 d2 (x', y', z', p', q', r', t') = Lu) := hLu
    clear hLu
    generalize hPS : plP d0 d1 d2 ts (k + 1) = PS at *
    have HPS : Hid (plP d0 d1 d2 ts (k + 1) = PS) := hPS
    clear hPS
    generalize plP d0 d1 d2 ts k = PK at *
    gi_wp2_with fail
    refine ⟨trivial, (callsIn_wide.2 (HLm.out _)).mono ?_⟩
    rintro e w3 ⟨rfl, rfl⟩
    clear HLm c0 c1 c2 c3 c4 c5 c6 hgz e0 e1 e2 hez
    obtain ⟨U1, hU1⟩ : ∃ U1, U1 = (((wr.alloc (.cells #[I x', I y', I z', .bool p', .bool q', .bool r', .bool t'] 26)).alloc (.cells #[I d0, I d1, I d2] 23)).alloc (.cells #[I x', I y', I z', .bool p', .bool q', .bool r', .bool t'] 26)) := ⟨_, rfl⟩
    have hbU : Below wr.heap.size wr U1 := by
      rw [hU1]
      exact (((Below.refl _ wr).alloc (Nat.le_refl _) _).alloc (by simp) _).alloc (by simp; omega) _
    have hsq : SeqO Tryz.prog 68 #[.pointer (some ⟨wr.heap.size + 1, 0, none⟩), .pointer (some ⟨wr.heap.size + 1 + 1, 0, none⟩)] encP okP (lyL d0 d1 d2 (x', y', z', p', q', r', t')) U1 := lying_seq HD.out (x', y', z', p', q', r', t') okP okP_d okP_w U1 (by
        rw [hU1]
        have := (Blk.new (wr.alloc (.cells #[I x', I y', I z', .bool p', .bool q', .bool r', .bool t'] 26)) 23 #[I d0, I d1, I d2]).alloc (.cells #[I x', I y', I z', .bool p', .bool q', .bool r', .bool t'] 26)
        simpa using this) (by
        rw [hU1]
        have := Blk.new ((wr.alloc (.cells #[I x', I y', I z', .bool p', .bool q', .bool r', .bool t'] 26)).alloc (.cells #[I d0, I d1, I d2] 23)) 26 #[I x', I y', I z', .bool p', .bool q', .bool r', .bool t']
        simpa using this)
    rw [HLu.out] at hsq
    simp only [World.size_alloc]
    rw [← hU1]
    have pv2 := pv1.later hbU
    have HJ2 : Hid (J PK U1) := own_below HJ.out.1 hJ1.out hbU
    have HM1 : Hid (MarkB Wn bs U1) := mk1.later hbU
    have HML : Hid (∀ d ∈ bs, d < U1.heap.size) := fun d hd => (mk1.later hbU).lt hd
    have HWU2 : Hid (Wn ≤ U1.heap.size) := Nat.le_trans HWU1.out hbU.size
    clear hU1 hbU pv1 mk1 hJ1 HWU1
    generalize wr.heap.size + 1 + 1 = B2 at *
    generalize wr.heap.size + 1 = B1 at *
    generalize wr.heap.size = B0 at *
    clear wr
    gi_wp2_with fail
    refine wpIn_rangeO rfl (enters_of Tryz.func68 (by kernel_rfl) rfl) hsq (Below.refl _ _) (fun _ => rfl)
      (fun pre V => (J (PK ++ pre) V ∧ PlcPv d0 d1 d2 l Bd Wn base (.slice (some ⟨g, 0, none⟩) ts.length cap) ts V) ∧ MarkB Wn bs V)
      (fun c pre V => (c = .ret ∧ ∃ q, q <+: L ∧ Jx q V) ∧ MarkB Wn bs V)
      (fun pre A A' row hs hgr hr => ⟨⟨own_mono HJ.out.1 HWU2.out _ A A' row hs.1.1 hgr hr, hs.1.2.kept hgr (fun r e => (hr r e).2)⟩, hs.2.grown HML.out hgr hr⟩)
      (fun c pre A A' row hs hgr hr => ⟨⟨hs.1.1, by obtain ⟨_, q, hq, hj⟩ := hs.1; exact ⟨q, hq, own_mono HJ.out.2 HWU2.out _ A A' row hj hgr hr⟩⟩, hs.2.grown HML.out hgr hr⟩)
      ⟨⟨by simpa using HJ2.out, pv2⟩, HM1.out⟩
      (fun xx a' V => ∃ Bf, a' = { tmps := #[.func (.yield l) #[] #[], .pointer (some ⟨Bw, 0, none⟩), .pointer (some ⟨Bd, 0, none⟩), .pointer (some ⟨Wn, 0, none⟩), (.slice (some ⟨g, 0, none⟩) ts.length cap), I 0, undef, .pointer (some ⟨B0, 0, none⟩), .pointer (some ⟨Bf, 0, none⟩), .tuple #[(.slice (some ⟨g, 0, none⟩) ts.length cap), I 0], V7 x y z p q r t, V7 x y z p1 q1 r1 t, .tuple #[(.slice (some ⟨g, 0, none⟩) ts.length cap), I 0], (.slice (some ⟨g, 0, none⟩) ts.length cap), I 0, I 0, .bool false, (.slice (some ⟨g, 0, none⟩) ts.length cap), I ts.length, .int .i64 k, .bool true, .pointer (some ⟨g, k * 7, none⟩), V7 x' y' z' p' q' r' t', .agg #[I d0, I d1, I d2], V7 x' y' z' p' q' r' t', .func (.func 68) #[] #[.pointer (some ⟨B1, 0, none⟩), .pointer (some ⟨B2, 0, none⟩)], PV xx, u27, u28, u29, u30, u31], defers := [] } ∧ Blk V Bf 32 (C9 xx.1 xx.2.1 xx.2.2.1 xx.2.2.2))
      (fun xx a' _ A0 A1 row hs hgr hr => by
        obtain ⟨Bf, e, hb⟩ := hs
        exact ⟨Bf, e, hb.kept hgr (fun r e => (hr r e).2)⟩) ?assign ?body ?done ?stop
    case assign =>
      rintro l2 pre ⟨b, b0, b1, b2⟩ V K2 hI hK2
      have hBa : Below V.heap.size V (V.alloc (.cells (C9 b b0 b1 b2) 32)) := (Below.refl _ V).alloc (Nat.le_refl _) _
      gi_wp2
      exact hK2 _ _ ((keeps_below hBa).from _) (KeepT.below _ hBa) ⟨⟨own_below HJ.out.1 hI.1.1 hBa, hI.1.2.later hBa⟩, hI.2.later hBa⟩ ⟨_, rfl, Blk.new _ _ _⟩
    case body =>
      rintro l2 pre ⟨b, b0, b1, b2⟩ a' V hpre hl0 _ ⟨⟨hJ3, pv3⟩, hmk⟩ ⟨Bf, rfl, kf⟩
      dsimp only at kf ⊢
      have HN : Hid ((PK ++ pre) ++ [(b, b0, b1, b2)] <+: L) := HNx.out pre (b, b0, b1, b2) hpre
      have HMk : Hid (MarkB Wn bs V) := hmk
      have HPv : Hid (PlcPv d0 d1 d2 l Bd Wn base (.slice (some ⟨g, 0, none⟩) ts.length cap) ts V) := pv3
      have cy := pv3.f.cell 0
      have hfz := pv3.f.lt
      simp at cy
      obtain ⟨f1, t1, as1, bo1, hy1, hR1⟩ := HY.out (PK ++ pre) (b, b0, b1, b2) V HN.out hJ3
      dsimp only [encP, PV, P9] at hy1
      have hR1 := roundIn_any (m := 0) hR1
      obtain ⟨⟨v0, v1, v2⟩, ⟨v3, v4, v5⟩, ⟨v6, v7, v8⟩, l1⟩ := kf.nine (Below.refl _ V)
      clear hJ3 pv3 hmk kf hpre
      gi_wp2_with fail
      refine ⟨rfl, hR1.mono ?_⟩
      rintro e W3 (⟨rfl, hJ6, hk6, hf6⟩ | ⟨rfl, hJx6, hf6⟩)
      · have HA : Hid (PK ++ (pre ++ [(b, b0, b1, b2)]) = (PK ++ pre) ++ [(b, b0, b1, b2)]) := by show _ = _; simp
        have HJ6 : Hid (J (PK ++ (pre ++ [(b, b0, b1, b2)])) W3 ∧ KeepT okP V W3 ∧ KeepsFrom Wn V W3) := by rw [HA.out]; exact ⟨hJ6, hk6, hf6⟩
        clear hJ6 hk6 hf6
        gi_wp2
        exact ⟨keepsFrom_mono HJ6.out.2.2 HWU2.out, HJ6.out.2.1, ⟨HJ6.out.1, HPv.out.keep HJ6.out.2.1⟩, HMk.out.keep HJ6.out.2.2 (Nat.le_refl _)⟩
      · have HJ6 : Hid (Jx ((PK ++ pre) ++ [(b, b0, b1, b2)]) W3 ∧ KeepsFrom Wn V W3) := ⟨hJx6, hf6⟩
        clear hJx6 hf6
        gi_wp2
        exact ⟨keepsFrom_mono HJ6.out.2 HWU2.out, ⟨rfl, _, HN.out, HJ6.out.1⟩, HMk.out.keep HJ6.out.2 (Nat.le_refl _)⟩
    case done =>
      rintro Db U hD ⟨⟨hJ3, pv3⟩, hmk⟩ hDV
      have mk : MarkB Wn (Db :: bs) U := hmk.cons (Nat.le_trans HWU2.out hD) hDV (fun d hd => Nat.lt_of_lt_of_le (HML.out d hd) hD)
      have HJ4 : Hid (J (plP d0 d1 d2 ts (k + 1)) U) := by
        show J _ _
        rw [HPS.out, HS.out]
        exact hJ3
      have HE : Hid (PlcPv d0 d1 d2 l Bd Wn base (.slice (some ⟨g, 0, none⟩) ts.length cap) ts U ∧ MarkB Wn (Db :: bs) U ∧ Wn ≤ U.heap.size) := ⟨pv3, mk, by have := (Array.getElem?_eq_some_iff.1 hDV).1; have := HWU2.out; omega⟩
      clear hJ3 pv3 hmk mk hDV hD
      gi_wp2
      exact HK.out.2 _ _ ⟨n - 1, by omega, HK.out.1 _ _ _ ⟨k + 1, Db :: bs, _, _, _, _, _, _, _, _, _, _, _, _, _, _, by omega, rfl, HJ4, HE.out.1, HE.out.2.1, HE.out.2.2⟩⟩
    case stop =>
      rintro D c pre V hD hpre ⟨⟨rfl, q, hq, hj⟩, hmk⟩ hDV
      have mk : MarkB Wn (D :: bs) V := hmk.cons (Nat.le_trans HWU2.out hD) hDV (fun d hd => Nat.lt_of_lt_of_le (HML.out d hd) hD)
      have HE : Hid (MarkB Wn (D :: bs) V ∧ q <+: L ∧ Jx q V) := ⟨mk, hq, hj⟩
      clear mk hmk hDV hD hpre hq hj
      gi_wp2
      exact leaves_own (n := Wn) (fun V' => Jx q V') (fun _ A A' row hs hgr hr => HJ.out.2 _ A A' row hs hgr hr) _ V HE.out.1.1 HE.out.1.2 HE.out.2.2 (fun V' hV' _ => ⟨_, results_none rfl _ _ _, ⟨_, rfl⟩, .inr ⟨q, HE.out.2.1, hV'⟩⟩)
  · obtain rfl : k = ts.length := by omega
    have HF : Hid (J L wr) := by
      show J _ _
      rw [HL.out]
      have := hJ1.out
      unfold plP at this
      rw [List.take_length] at this
      exact this
    have HE : Hid (MarkB Wn bs wr) := mk1
    clear hJ1 pv1 mk1
    gi_wp2
    exact leaves_own (n := Wn) (fun V' => J L V') (fun _ A A' row hs hgr hr => HJ.out.1 _ A A' row hs hgr hr) _ wr HE.out.1 HE.out.2 HF.out (fun V' hV' _ => ⟨_, results_none rfl _ _ _, ⟨_, rfl⟩, .inl hV'⟩)

end Go.Proofs.YtlahfffgmfjpaaaGreatDoor

/-
  spots.Many.
-/
namespace Go.Proofs.YtlahfffgmfjpaaaGreatDoor
open Go Go.RowKit Go.Shelf Go.Maps

attribute [local go_sem] Oper.semAt_some ext_const ixI0 ixI1 ixI2

theorem ly_len (d0 d1 d2 : Int) (u : Wt) : (lyL d0 d1 d2 u).length ≤ (d0 * d1 * d2).toNat := by
  unfold lyL
  refine Nat.le_trans (List.length_filter_le _ _) ?_
  simp
theorem flat_len {α β : Type} (f : α → List β) (n : Nat) (h : ∀ a, (f a).length ≤ n) : ∀ l : List α, (l.flatMap f).length ≤ l.length * n
  | [] => by simp
  | a :: l => by
    have h1 := flat_len f n h l
    have h2 := h a
    rw [List.flatMap_cons, List.length_append, List.length_cons, Nat.succ_mul]
    omega
theorem places_bd {d0 d1 d2 : Int} (hd : mayD d0 d1 d2) {u : Wt} (hu : mayT u) : (placesL d0 d1 d2 u).length ≤ 24576 := by
  have h1 := flat_len (lyL d0 d1 d2) (d0 * d1 * d2).toNat (ly_len d0 d1 d2) (turnsT (plainT u))
  have h2 := turns_six (plain_may.2 hu)
  have h3 := N_bd hd
  have h4 : (d0 * d1 * d2).toNat ≤ 4096 := by omega
  have := Nat.mul_le_mul h2 h4
  unfold placesL
  omega

set_option maxRecDepth 100000 in
theorem smany_no {d0 d1 d2 : Int} {u : Wt} (w : World) (h : ¬ (mayD d0 d1 d2 ∧ mayT u)) : Calls Tryz.prog 10 #[A3 d0 d1 d2, W7 u] w fun e W' => e = .returned (.tuple #[I 0, I 8]) ∧ Below w.heap.size w W' := by
  obtain ⟨x, y, z, p, q, r, t⟩ := u
  have HC : Hid (∀ w1, Calls Tryz.prog 15 #[A3 d0 d1 d2, V7 x y z p q r t] w1 fun e W' => e = .returned (I 8) ∧ Below w1.heap.size w1 W') := fun w1 => acheck_no w1 (fun hh => h ⟨hh.1, mayT_D.2 hh.2⟩)
  clear h
  obtain ⟨W, hW, hB0, k0, k1⟩ := two_start w #[I d0, I d1, I d2] #[I x, I y, I z, .bool p, .bool q, .bool r, .bool t] 23 26
  have HW : Hid ((w.alloc (.cells #[I d0, I d1, I d2] 23)).alloc (.cells #[I x, I y, I z, .bool p, .bool q, .bool r, .bool t] 26) = W) := hW
  clear hW k0 k1
  refine (callsIn_wide (n := 3)).1 ?_
  refine callsIn_of_wp_marks Tryz.func10 rfl trivial ?_ rfl
  simp only [Tryz.ntmps10, List.size_toArray, List.length_cons, List.length_nil, Nat.reduceAdd, Nat.reduceSub, Array.replicate_succ, Array.replicate_zero, List.push_toArray, List.append_toArray, List.nil_append, List.cons_append]
  dsimp only [W7]
  gi_wp2_with fail
  refine ⟨trivial, (callsIn_wide.2 (HC.out _)).mono ?_⟩
  rw [HW.out]
  rintro e w1 ⟨rfl, hB⟩
  have hT := then_below hB0 hB
  clear hB
  gi_wp2
  exact ⟨_, results_tmp2 rfl _ _ _, rfl, hT⟩

set_option maxRecDepth 100000 in
set_option maxHeartbeats 4000000 in
theorem smany_yes {d0 d1 d2 : Int} {u : Wt} (w : World) (hO : OrdOk w) (hd : mayD d0 d1 d2) (hu : mayT u) : Calls Tryz.prog 10 #[A3 d0 d1 d2, W7 u] w fun e W' => e = .returned (.tuple #[I (placesL d0 d1 d2 u).length, I 0]) ∧ Below w.heap.size w W' := by
  have HSq : Hid (∀ (Bd Bw : Nat) (w1 : World), OrdOk w1 → Blk w1 Bd 23 #[I d0, I d1, I d2] → Blk w1 Bw 26 (C7 u) → SeqO Tryz.prog 42 #[.pointer (some ⟨Bw, 0, none⟩), .pointer (some ⟨Bd, 0, none⟩)] encP okP (placesL d0 d1 d2 u) w1) := fun Bd Bw w1 h1 h2 h3 => places_seq hd u hu w1 h1 h2 h3
  have HBd : Hid ((placesL d0 d1 d2 u).length ≤ 24576) := places_bd hd hu
  have HPc : Hid (∀ w1, Calls Tryz.prog 18 #[A3 d0 d1 d2, W7 u] w1 fun e W' => e = .returned (.func (.func 42) #[] #[.pointer (some ⟨w1.heap.size + 1, 0, none⟩), .pointer (some ⟨w1.heap.size, 0, none⟩)]) ∧ W' = (w1.alloc (.cells #[I d0, I d1, I d2] 23)).alloc (.cells (C7 u) 26)) := fun w1 => places_calls d0 d1 d2 u w1
  obtain ⟨x, y, z, p, q, r, t⟩ := u
  have HC : Hid (∀ w1, Calls Tryz.prog 15 #[A3 d0 d1 d2, V7 x y z p q r t] w1 fun e W' => e = .returned (I 0) ∧ Below w1.heap.size w1 W') := fun w1 => acheck_yes w1 hd (mayT_D.1 hu)
  have HO : Hid (OrdOk w) := hO
  clear hd hu hO
  generalize placesL d0 d1 d2 (x, y, z, p, q, r, t) = L at *
  dsimp only [C7, W7] at HSq HPc ⊢
  obtain ⟨W, hW, hB0, k0, k1⟩ := two_start w #[I d0, I d1, I d2] #[I x, I y, I z, .bool p, .bool q, .bool r, .bool t] 23 26
  have HW : Hid ((w.alloc (.cells #[I d0, I d1, I d2] 23)).alloc (.cells #[I x, I y, I z, .bool p, .bool q, .bool r, .bool t] 26) = W) := hW
  clear hW
  refine (callsIn_wide (n := 3)).1 ?_
  refine callsIn_of_wp_marks Tryz.func10 rfl trivial ?_ rfl
  simp only [Tryz.ntmps10, List.size_toArray, List.length_cons, List.length_nil, Nat.reduceAdd, Nat.reduceSub, Array.replicate_succ, Array.replicate_zero, List.push_toArray, List.append_toArray, List.nil_append, List.cons_append]
  gi_wp2_with fail
  refine ⟨trivial, (callsIn_wide.2 (HC.out _)).mono ?_⟩
  rw [HW.out]
  rintro e w1 ⟨rfl, hB⟩
  have hT := then_below hB0 hB
  obtain ⟨c0, c1, c2, hz⟩ := (k0.later hB).three (Below.refl _ _)
  obtain ⟨s0, s1, s2, s3, s4, s5, s6⟩ := (k1.later hB).seven
  have hz1 := (k1.later hB).lt
  clear hB0 k0 k1 hB HW W
  gi_wp2_with fail
  refine ⟨trivial, (callsIn_wide.2 (HPc.out _)).mono ?_⟩
  rintro e w2 ⟨rfl, rfl⟩
  clear c0 c1 c2 hz s0 s1 s2 s3 s4 s5 s6 hz1
  obtain ⟨U, hU⟩ : ∃ U, U = (((w1.alloc (.cells #[I 0] 3)).alloc (.cells #[I d0, I d1, I d2] 23)).alloc (.cells #[I x, I y, I z, .bool p, .bool q, .bool r, .bool t] 26)) := ⟨_, rfl⟩
  have hbU : Below w1.heap.size w1 U := by
    rw [hU]
    exact (((Below.refl _ w1).alloc (Nat.le_refl _) _).alloc (by simp) _).alloc (by simp; omega) _
  have hTU : Below w.heap.size w U := then_below hT hbU
  have hsq := HSq.out (w1.heap.size + 1) (w1.heap.size + 1 + 1) U (HO.out.later hTU) (by
      rw [hU]
      have := (Blk.new (w1.alloc (.cells #[I 0] 3)) 23 #[I d0, I d1, I d2]).alloc (.cells #[I x, I y, I z, .bool p, .bool q, .bool r, .bool t] 26)
      simpa using this) (by
      rw [hU]
      have := Blk.new ((w1.alloc (.cells #[I 0] 3)).alloc (.cells #[I d0, I d1, I d2] 23)) 26 #[I x, I y, I z, .bool p, .bool q, .bool r, .bool t]
      simpa using this)
  have kn : Blk U w1.heap.size 3 #[I 0] := by
    rw [hU]
    exact ((Blk.new w1 3 #[I 0]).alloc _).alloc _
  simp only [World.size_alloc]
  rw [← hU]
  have HU : Hid (w.heap.size ≤ w1.heap.size ∧ w1.heap.size < U.heap.size) := ⟨hT.size, kn.lt⟩
  clear hU hbU hT
  gi_wp2_with fail
  generalize hBn : w1.heap.size = Bn at *
  refine wpIn_rangeO rfl (enters_of Tryz.func42 (by kernel_rfl) rfl) hsq (Below.refl _ _) (fun _ => rfl)
    (fun pre V => Blk V Bn 3 #[I pre.length] ∧ Below w.heap.size w V) (fun _ _ _ => False)
    (fun pre A A' row hs hgr hr => ⟨hs.1.kept hgr (fun r e => (hr r e).2), hs.2.grown hgr hs.2.size (fun r e => by have := (hr r e).1; have := HU.out; omega)⟩)
    (fun _ _ _ _ _ hs _ _ => hs)
    ⟨kn, hTU⟩
    (fun xx a' V => a' = { tmps := #[A3 d0 d1 d2, V7 x y z p q r t, .pointer (some ⟨w.heap.size, 0, none⟩), .pointer (some ⟨w.heap.size + 1, 0, none⟩), .int .i64 0, .int .i64 0, I 0, .pointer (some ⟨Bn, 0, none⟩), .agg #[.int .i64 d0, .int .i64 d1, .int .i64 d2], .agg #[.int .i64 x, .int .i64 y, .int .i64 z, .bool p, .bool q, .bool r, .bool t], I 0, I 0, .bool false, undef, .agg #[I d0, I d1, I d2], .agg #[I x, I y, I z, .bool p, .bool q, .bool r, .bool t], .func (.func 42) #[] #[.pointer (some ⟨Bn + 1 + 1, 0, none⟩), .pointer (some ⟨Bn + 1, 0, none⟩)], PV xx, undef, undef, undef], defers := [] })
    (fun xx a' _ A0 A1 row hs hgr hr => hs) ?assign ?body ?done ?stop
  case assign =>
    rintro l2 pre ⟨b, b0, b1, b2⟩ V K2 hI hK2
    gi_wp2
    exact hK2 _ _ (KeepsFrom.refl _ _) (KeepT.refl _ _) hI (by simp [encP])
  case body =>
    rintro l2 pre ⟨b, b0, b1, b2⟩ a' V hpre hl0 _ ⟨kb, hTV⟩ rfl
    have hln : pre.length < 24576 := by
      have h1 := hpre.length_le
      have h2 := HBd.out
      rw [List.length_append, List.length_singleton] at h1
      omega
    have HB : Hid (Blk V Bn 3 #[I pre.length] ∧ Below w.heap.size w V) := ⟨kb, hTV⟩
    have HA : Hid (((pre ++ [(b, b0, b1, b2)]).length : Int) = (pre.length : Int) + 1) := by show _ = _; simp
    have cb := kb.cell 0
    have fb := kb.frozen 0
    have zb := kb.lt
    simp at cb
    clear kb hTV hpre
    generalize pre.length = n1 at *
    gi_wp2
    refine ⟨keepsFrom_setCell _ (a := ⟨Bn, 0, none⟩) HU.out.2 _, keepT_setCell HB.out.1 (by decide) _, ?_, HB.out.2.setCell (p := ⟨Bn, 0, none⟩) HU.out.1 _⟩
    have := HB.out.1.set 0 (I ((n1 : Int) + 1))
    rw [HA.out]
    exact this
  case done =>
    rintro Db V hD ⟨kb, hTV⟩ hDV
    have HE : Hid (Below w.heap.size w V ∧ V.heap[Db]? = some (.deferred (some [])) ∧ w.heap.size ≤ Db) := ⟨hTV, hDV, by have := HU.out; omega⟩
    have cb := kb.cell 0
    have zb := kb.lt
    simp at cb
    clear kb hTV hDV hD
    gi_wp2
    exact leaves_own (n := w.heap.size) (fun V' => Below w.heap.size w V') (fun _ A A' row hs hgr hr => hs.grown hgr hs.size (fun r e => (hr r e).1)) [Db] _ (by simp) (fun d hd => by rw [List.mem_singleton.1 hd]; exact ⟨HE.out.2.2, HE.out.2.1⟩) HE.out.1 (fun V' hV' _ => ⟨_, results_tmp2 rfl _ _ _, rfl, hV'⟩)
  case stop =>
    rintro D c pre V hD hpre h
    exact h.elim

end Go.Proofs.YtlahfffgmfjpaaaGreatDoor

/-
  spots.Is.
-/
namespace Go.Proofs.YtlahfffgmfjpaaaGreatDoor
open Go Go.RowKit Go.Shelf Go.Maps

attribute [local go_sem] Oper.semAt_some ext_const ixI0 ixI1 ixI2

theorem of_is {u : Wt} {b : Bx} {p q r : Bool} : ofT (plainT u) b.a b.b b.c p q r = isT (turnsT u) (b, p, q, r) := by
  rw [Bool.eq_iff_iff, isT_iff]
  unfold ofT
  rw [List.any_eq_true]
  constructor
  · rintro ⟨v, hv, h⟩
    obtain ⟨s, hs, rfl⟩ := plain_turns.1 hv
    refine ⟨s, hs, ?_⟩
    obtain ⟨x, y, z, f, g, h', t⟩ := s
    simp only [hasTs, plainT, Bool.and_eq_true, eqN, eqB, beq_iff_eq] at h
    obtain ⟨⟨e1, e2, e3⟩, e4, e5, e6⟩ := h
    simp only [kindT, kdP, Prod.mk.injEq]
    exact ⟨e1, e2, e3, e4, e5, e6, trivial⟩
  · rintro ⟨s, hs, h⟩
    refine ⟨plainT s, plain_turns.2 ⟨s, hs, rfl⟩, ?_⟩
    obtain ⟨x, y, z, f, g, h', t⟩ := s
    simp only [kindT, kdP, Prod.mk.injEq] at h
    obtain ⟨e1, e2, e3, e4, e5, e6, _⟩ := h
    simp only [hasTs, plainT, Bool.and_eq_true, eqN, eqB, beq_iff_eq]
    exact ⟨⟨e1, e2, e3⟩, e4, e5, e6⟩

/-- What Is answers. -/
def isE (d0 d1 d2 : Int) (u : Wt) (b : Bx) (p q r : Bool) : Int := if okDB d0 d1 d2 && okDB u.1 u.2.1 u.2.2.1 then errP d0 d1 d2 b p q r else 8
def isB (d0 d1 d2 : Int) (u : Wt) (b : Bx) (p q r : Bool) : Bool := decide (isE d0 d1 d2 u b p q r = 0) && isT (turnsT u) (b, p, q, r)

theorem three_is (w : World) (u0 u1 u2 : Array Value) (t0 t1 t2 : TypeId) :
    ∃ W : World, ((w.alloc (.cells u0 t0)).alloc (.cells u1 t1)).alloc (.cells u2 t2) = W ∧ Below w.heap.size w W ∧ Blk W w.heap.size t0 u0 ∧ Blk W (w.heap.size + 1) t1 u1 ∧ Blk W (w.heap.size + 1 + 1) t2 u2 := three_turn w u0 u1 u2 t0 t1 t2

set_option maxRecDepth 100000 in
set_option maxHeartbeats 4000000 in
theorem sis_calls {d0 d1 d2 : Int} {u : Wt} {b : Bx} {p q r : Bool} (w : World) (hO : OrdOk w) : Calls Tryz.prog 8 #[A3 d0 d1 d2, W7 u, P9 b p q r] w fun e W' => e = .returned (.tuple #[.bool (isB d0 d1 d2 u b p q r), I (isE d0 d1 d2 u b p q r)]) ∧ Below w.heap.size w W' := by
  have mixed : Tryz.prog.follows .mixedOrders = true := by kernel_rfl
  have HO : Hid (OrdOk w) := hO
  have HP : Hid (∀ w1, Calls Tryz.prog 25 #[A3 d0 d1 d2, P9 b p q r] w1 fun e W' => e = .returned (I (errP d0 d1 d2 b p q r)) ∧ Below w1.heap.size w1 W') := fun w1 => pcheck_calls d0 d1 d2 b p q r w1
  obtain ⟨x, y, z, f, g, h, t⟩ := u
  have HPl := fun w1 => plain_calls x y z f g h t w1
  have HOf : mayD x y z → ∀ w1, OrdOk w1 → Calls Tryz.prog 26 #[V7 x y z (f && decide (1 < x)) (g && decide (1 < y)) (h && decide (1 < z)) t, A3 b.a b.b b.c, B3 p q r] w1 fun e W' => e = .returned (.tuple #[.bool (isT (turnsT (x, y, z, f, g, h, t)) (b, p, q, r)), I 0]) ∧ Below w1.heap.size w1 W' := fun hm w1 h1 => by
    rw [← of_is]
    exact tof_yes w1 h1 hm
  unfold isB isE
  dsimp only [W7]
  generalize isT (turnsT (x, y, z, f, g, h, t)) (b, p, q, r) = an at *
  generalize hf1 : (f && decide (1 < x)) = f1 at *
  generalize hg1 : (g && decide (1 < y)) = g1 at *
  generalize hh1 : (h && decide (1 < z)) = h1 at *
  clear hf1 hg1 hh1
  obtain ⟨W, hW, hB0, k0, k1, k2⟩ := three_is w #[I d0, I d1, I d2] #[I x, I y, I z, .bool f, .bool g, .bool h, .bool t] (C9 b p q r) 23 26 32
  have HW : Hid (((w.alloc (.cells #[I d0, I d1, I d2] 23)).alloc (.cells #[I x, I y, I z, .bool f, .bool g, .bool h, .bool t] 26)).alloc (.cells (C9 b p q r) 32) = W) := hW
  clear hW hO
  generalize hok : (okDB d0 d1 d2 && okDB x y z) = ok
  cases ok
  · have HC : Hid (∀ w1, Calls Tryz.prog 15 #[A3 d0 d1 d2, V7 x y z f g h t] w1 fun e W' => e = .returned (I 8) ∧ Below w1.heap.size w1 W') := fun w1 => acheck_no w1 (fun hh => by
      rw [(okDB_iff _ _ _).2 hh.1, (okDB_iff _ _ _).2 hh.2] at hok
      cases hok)
    clear HP HPl HOf hok k0 k1 k2
    go_enter Tryz.func8, Tryz.ntmps8
    go_wp2_with fail
    rw [HW.out]
    refine (HC.out _).mono ?_
    rintro e w1 ⟨rfl, hB⟩
    have hT := then_below hB0 hB
    go_wp2
    go_ret2
    exact ⟨rfl, hT⟩
  · rw [Bool.and_eq_true] at hok
    have hd := (okDB_iff _ _ _).1 hok.1
    have hx := (okDB_iff _ _ _).1 hok.2
    have HC : Hid (∀ w1, Calls Tryz.prog 15 #[A3 d0 d1 d2, V7 x y z f g h t] w1 fun e W' => e = .returned (I 0) ∧ Below w1.heap.size w1 W') := fun w1 => acheck_yes w1 hd hx
    have HOf : Hid (∀ w1, OrdOk w1 → Calls Tryz.prog 26 #[V7 x y z f1 g1 h1 t, A3 b.a b.b b.c, B3 p q r] w1 fun e W' => e = .returned (.tuple #[.bool an, I 0]) ∧ Below w1.heap.size w1 W') := HOf hx
    clear hok hd hx
    generalize errP d0 d1 d2 b p q r = er at *
    by_cases he : er = 0
    · subst he
      go_enter Tryz.func8, Tryz.ntmps8
      go_wp2_with fail
      rw [HW.out]
      refine (HC.out _).mono ?_
      rintro e w1 ⟨rfl, hB⟩
      have hT := then_below hB0 hB
      obtain ⟨c0, c1, c2, hz⟩ := (k0.later hB).three (Below.refl _ _)
      obtain ⟨⟨v0, v1, v2⟩, ⟨v3, v4, v5⟩, ⟨v6, v7, v8⟩, l1⟩ := k2.nine hB
      go_wp2_with fail
      refine (HP.out _).mono ?_
      rintro e w2 ⟨rfl, hB2⟩
      have hT2 := then_below hT hB2
      have kk1 := (k1.later hB).later hB2
      have kk2 := (k2.later hB).later hB2
      have x0 := Ext.cell kk1 0
      have x1 := Ext.cell kk1 1
      have x2 := Ext.cell kk1 2
      have x3 := Ext.cell kk1 3
      have x4 := Ext.cell kk1 4
      have x5 := Ext.cell kk1 5
      have x6 := Ext.cell kk1 6
      have y3 := Ext.cell kk2 3
      have y4 := Ext.cell kk2 4
      have y5 := Ext.cell kk2 5
      have y6 := Ext.cell kk2 6
      have y7 := Ext.cell kk2 7
      have y8 := Ext.cell kk2 8
      simp at x0 x1 x2 x3 x4 x5 x6 y3 y4 y5 y6 y7 y8
      have HOX : ∀ X : Ext w2, OrdOk X.wd := fun X => (HO.out.later hT2).later X.le
      clear c0 c1 c2 hz v0 v1 v2 v3 v4 v5 v6 v7 v8 l1 kk1 kk2 k0 k1 k2 hB hB2 hT HC HP
      go_wp2_with fail
      refine wp_region_look mixed (by kernel_rfl) ?_
      repeat (go_big_quiet_step (first | (go_at_call 27; exact calls_ext (HPl _)) | (go_at_call 26; exact calls_ext (HOf.out _ (HOX _)))))
      refine wpQuiet_nil ?_
      intro X
      go_wp2
      go_ret2
      exact ⟨by simp, then_below hT2 X.le⟩
    · have hE0 : decide (er = 0) = false := by simpa using he
      have hE1 : (er != 0) = true := by simpa using he
      clear HPl HOf
      go_enter Tryz.func8, Tryz.ntmps8
      go_wp2_with fail
      rw [HW.out]
      refine (HC.out _).mono ?_
      rintro e w1 ⟨rfl, hB⟩
      have hT := then_below hB0 hB
      obtain ⟨c0, c1, c2, hz⟩ := (k0.later hB).three (Below.refl _ _)
      obtain ⟨⟨v0, v1, v2⟩, ⟨v3, v4, v5⟩, ⟨v6, v7, v8⟩, l1⟩ := k2.nine hB
      go_wp2_with fail
      refine (HP.out _).mono ?_
      rintro e w2 ⟨rfl, hB2⟩
      have hT2 := then_below hT hB2
      go_wp2
      go_ret2
      exact ⟨by simp, hT2⟩

end Go.Proofs.YtlahfffgmfjpaaaGreatDoor
