/-
  Sets of two: set.join and what it is handed; set.And, set.Or, set.Less.
-/
import Derived.Test.YtbedhpooeabehaaDoorPart4
import Derived.Lib.TrailingZeros
namespace Go.Proofs.YtbedhpooeabehaaDoor
open Go Go.RowKit Go.Shelf

attribute [local go_sem] Oper.semAt_some ext_const

def notW (x y : Nat) : Nat := x &&& (18446744073709551615 - y)
theorem and_lt (x y : Nat) (hx : x < 18446744073709551616) : x &&& y < 18446744073709551616 := Nat.lt_of_le_of_lt Nat.and_le_left hx
theorem bits_or_lt (x y : Nat) (hx : x < 18446744073709551616) (hy : y < 18446744073709551616) : x ||| y < 18446744073709551616 := Nat.or_lt_two_pow (n := 64) hx hy
theorem notW_bit (x y j : Nat) (hy : y < 18446744073709551616) (hj : j < 64) : (notW x y).testBit j = (x.testBit j && !y.testBit j) := by
  unfold notW
  rw [Nat.testBit_and, show 18446744073709551615 - y = 2 ^ 64 - (y + 1) by omega, Nat.testBit_two_pow_sub_succ (by omega)]
  simp [hj]

theorem and1_calls (x y : Nat) (hx : x < 18446744073709551616) (hy : y < 18446744073709551616) (w : World) : Calls Tryd.prog 36 #[U x, U y] w fun e W' => e = .returned (U (x &&& y)) ∧ W' = w := by
  have h := u64_and_nat x y hx hy
  go_enter Tryd.func36, Tryd.ntmps36
  go_wp2
  go_ret
  exact ⟨rfl, rfl⟩
theorem or1_calls (x y : Nat) (hx : x < 18446744073709551616) (hy : y < 18446744073709551616) (w : World) : Calls Tryd.prog 22 #[U x, U y] w fun e W' => e = .returned (U (x ||| y)) ∧ W' = w := by
  have h := u64_or_nat x y hx hy
  go_enter Tryd.func22, Tryd.ntmps22
  go_wp2
  go_ret
  exact ⟨rfl, rfl⟩
theorem less1_calls (x y : Nat) (hx : x < 18446744073709551616) (hy : y < 18446744073709551616) (w : World) : Calls Tryd.prog 30 #[U x, U y] w fun e W' => e = .returned (U (notW x y)) ∧ W' = w := by
  have h := u64_andNot_nat x y hx hy
  go_enter Tryd.func30, Tryd.ntmps30
  go_wp2
  go_ret
  exact ⟨rfl, rfl⟩

/-- What a call that joins answers. -/
def joinW (op : Nat → Nat → Nat) (n : Int) (a b : List Nat) : List Nat := if errAll n [a, b] = 0 then List.zipWith op a b else []

theorem err_two {n : Int} {a b : List Nat} (h : errAll n [a, b] = 0) : 1 ≤ n ∧ n ≤ 12288 ∧ maySet n.toNat a = true ∧ maySet n.toNat b = true := by
  unfold errAll okN at h
  split at h
  · rename_i h1
    have h1 := of_decide_eq_true h1
    split at h
    · rename_i h2
      simp at h2
      exact ⟨h1.1, h1.2, h2.1, h2.2⟩
    · cases h
  · cases h
theorem err_one {n : Int} {a : List Nat} (h : errAll n [a] = 0) : 1 ≤ n ∧ n ≤ 12288 ∧ maySet n.toNat a = true := by
  unfold errAll okN at h
  split at h
  · rename_i h1
    have h1 := of_decide_eq_true h1
    split at h
    · rename_i h2
      simp at h2
      exact ⟨h1.1, h1.2, h2⟩
    · cases h
  · cases h
theorem err_cases (n : Int) (wss : List (List Nat)) : errAll n wss = 0 ∨ errAll n wss = 2 ∨ errAll n wss = 8 := by
  unfold errAll
  split
  · split <;> simp
  · simp

structure JoinAt (W : World) (g : Nat) (op : Nat → Nat → Nat) (a b : List Nat) (l k : Nat) (cs : List Nat) : Prop where
  len : cs.length = l
  word : ∀ x ∈ cs, x < 18446744073709551616
  done : ∀ j, j < k → cs.getD j 0 = op (a.getD j 0) (b.getD j 0)
  blk : Blk W g 34 (cs.map U).toArray
theorem JoinAt.step {W W' : World} {g : Nat} {op : Nat → Nat → Nat} {a b : List Nat} {l k : Nat} {cs : List Nat} (h : JoinAt W g op a b l k cs) (hb : Below W.heap.size W W') (hk : k < l) {z : Nat} (hz : z < 18446744073709551616) (he : z = op (a.getD k 0) (b.getD k 0)) :
    JoinAt (W'.setCell ⟨g, k, none⟩ (U z)) g op a b l (k + 1) (cs.set k z) := by
  refine ⟨by rw [List.length_set, h.len], fun x hx => ?_, fun j hj => ?_, blk_put (h.blk.later hb) k z⟩
  · rcases List.mem_or_eq_of_mem_set hx with hx | rfl
    · exact h.word x hx
    · exact hz
  · by_cases e : j = k
    · subst e
      rw [List.getD_eq_getElem?_getD, List.getElem?_set_self (by rw [h.len]; exact hk), ← he]
      rfl
    · rw [List.getD_eq_getElem?_getD, List.getElem?_set_ne (fun h => e h.symm), ← List.getD_eq_getElem?_getD]
      exact h.done j (by omega)
theorem JoinAt.all {W : World} {g : Nat} {op : Nat → Nat → Nat} {a b : List Nat} {l : Nat} {cs : List Nat} (h : JoinAt W g op a b l l cs) (ha : a.length = l) (hb : b.length = l) : cs = List.zipWith op a b := by
  apply List.ext_getElem
  · simp [h.len, ha, hb]
  · intro i h1 h2
    have := h.done i (by rw [← h.len]; exact h1)
    have ha' : i < a.length := by rw [ha, ← h.len]; exact h1
    have hb' : i < b.length := by rw [hb, ← h.len]; exact h1
    simpa [h1, ha', hb'] using this

set_option maxRecDepth 100000 in
set_option maxHeartbeats 4000000 in
theorem join_and {f : FuncId} {op : Nat → Nat → Nat} (hf : f = 36)
    (H : ∀ (x y : Nat), x < 18446744073709551616 → y < 18446744073709551616 → ∀ w : World, Calls Tryd.prog f #[U x, U y] w fun e W' => e = .returned (U (op x y)) ∧ W' = w)
    (hop : ∀ x y, x < 18446744073709551616 → y < 18446744073709551616 → op x y < 18446744073709551616)
    {va vb : Value} {a b : List Nat} (w : World) (ha : Wds w va a) (hb : Wds w vb b) (n : Int) :
    Calls Tryd.prog 21 #[I n, va, vb, .func (.func f) #[] #[]] w fun e W' => ∃ v, e = .returned (.tuple #[v, I (errAll n [a, b])]) ∧ SetR W' w.heap.size v (joinW op n a b) ∧ Below w.heap.size w W' := by
  have hmx : Tryd.prog.follows .mixedOrders = true := by kernel_rfl
  have HO : Hid (∀ (x y : Nat), x < 18446744073709551616 → y < 18446744073709551616 → ∀ w : World, Calls Tryd.prog f #[U x, U y] w fun e W' => e = .returned (U (op x y)) ∧ W' = w) := H
  have HP : Hid (∀ x y, x < 18446744073709551616 → y < 18446744073709551616 → op x y < 18446744073709551616) := hop
  have HA : Hid (Wds w va a) := ha
  have HB : Hid (Wds w vb b) := hb
  clear H hop
  have hck : ∀ W, Blk W w.heap.size 36 #[va, vb] → Below w.heap.size w W → Calls Tryd.prog 25 #[I n, .slice (some ⟨w.heap.size, 0, none⟩) 2 2] W fun e W' => e = .returned (I (errAll n [a, b])) ∧ W' = W := by
    intro W hW hB
    refine check_calls (vs := [va, vb]) (wss := [a, b]) W (Sl.blk hW 2) rfl (by simp) ?_ n
    intro i hi
    match i, hi with
    | 0, _ => exact ha.later hB
    | 1, _ => exact hb.later hB
  have HCK : Hid (∀ W, Blk W w.heap.size 36 #[va, vb] → Below w.heap.size w W → Calls Tryd.prog 25 #[I n, .slice (some ⟨w.heap.size, 0, none⟩) 2 2] W fun e W' => e = .returned (I (errAll n [a, b])) ∧ W' = W) := hck
  obtain ⟨aa, ca, rfl, hva⟩ := ha.view
  obtain ⟨ab, cb, rfl, hvb⟩ := hb.view
  have HVA : Hid (∀ k, k < a.length → ∃ g off, aa = some ⟨g, off, none⟩ ∧ g < w.heap.size ∧ w.cell? ⟨g, off + k, none⟩ = some (U (a.getD k 0))) := hva
  have HVB : Hid (∀ k, k < b.length → ∃ g off, ab = some ⟨g, off, none⟩ ∧ g < w.heap.size ∧ w.cell? ⟨g, off + k, none⟩ = some (U (b.getD k 0))) := hvb
  clear hva hvb ha hb hck
  obtain ⟨er, her⟩ : ∃ er, er = errAll n [a, b] := ⟨_, rfl⟩
  obtain ⟨ans, hans⟩ : ∃ ans, ans = joinW op n a b := ⟨_, rfl⟩
  rw [← her, ← hans]
  rw [← her] at HCK
  have HE : Hid (er = errAll n [a, b]) := her
  have HS : Hid (ans = joinW op n a b) := hans
  clear her hans
  by_cases h0 : er = 0
  · subst h0
    obtain ⟨h1, h2, hma, hmb⟩ := err_two HE.out.symm
    obtain ⟨m, rfl⟩ : ∃ m : Nat, n = m := ⟨n.toNat, by omega⟩
    rw [Int.toNat_natCast] at hma hmb
    have hla := (mayS_iff.1 hma).1
    have hlb := (mayS_iff.1 hmb).1
    have HW := fun w => words_calls m w (by omega)
    have hl2 : (m + 63) / 64 ≤ 192 := by omega
    have HLA : Hid (a.length = (m + 63) / 64) := hla
    have HLB : Hid (b.length = (m + 63) / 64) := hlb
    have HZ : Hid (ans = List.zipWith op a b) := by
      rw [HS.out]; unfold joinW; rw [if_pos HE.out.symm]; exact rfl
    clear hma hmb hla hlb HS HE
    generalize (m + 63) / 64 = l at *
    have HWH : Hid (∀ w : World, Calls Tryd.prog 26 #[I (m : Int)] w fun e W' => e = .returned (I (l : Int)) ∧ W' = w) := HW
    clear HW
    subst hf
    all_goals
      go_enter Tryd.func21, Tryd.ntmps21
      go_wp2_with fail
      refine (HCK.out _ (Blk.new w _ _) ((Below.refl _ w).alloc (Nat.le_refl _) _)).mono ?_
      rintro e w1 ⟨rfl, rfl⟩
      have hT := (Below.refl _ w).alloc (Nat.le_refl _) (.cells #[.slice aa a.length ca, .slice ab b.length cb] 36)
      generalize w.alloc (.cells #[.slice aa a.length ca, .slice ab b.length cb] 36) = W1 at *
      go_wp2_with fail
      refine (HWH.out _).mono ?_
      rintro e w1 ⟨rfl, rfl⟩
      go_wp2_with (at_make; refine wpList_mkW rfl _ _ rfl l rfl rfl (by omega) ?_; intro w2 hK hT2)
      have hJ : JoinAt w2 w1.heap.size op a b l 0 (List.replicate l 0) := ⟨by simp, (IsSet.none l).word, fun j hj => by omega, hK⟩
      have hT3 := then_below hT hT2
      have hg : w.heap.size ≤ w1.heap.size := hT.size
      generalize w1.heap.size = g at *
      clear hK hT2
      go_wp2
      go_loopw [26] (fun i wr => ∃ (k : Nat) (cs : List Nat), k ≤ l ∧ i = .int .i64 k ∧ JoinAt wr g op a b l k cs ∧ Below w.heap.size w wr) (fun i _ => l - (RowKit.intOf i).toNat)
      case atStart => exact ⟨0, _, by omega, rfl, hJ, hT3⟩
      case round =>
        clear hJ hT3
        obtain ⟨k, cs, hk, rfl, hJ, hB⟩ := hrel
        by_cases hlt : (k : Int) < (l : Int)
        · have hkl : k < l := by omega
          obtain ⟨ga, oa, rfl, hga, hca⟩ := HVA.out k (by rw [HLA.out]; exact hkl)
          obtain ⟨gb, ob, rfl, hgb, hcb⟩ := HVB.out k (by rw [HLB.out]; exact hkl)
          have hka : (k : Int) < (a.length : Int) := by rw [HLA.out]; exact hlt
          have hkb : (k : Int) < (b.length : Int) := by rw [HLB.out]; exact hlt
          have hxa := HA.out.word k
          have hxb := HB.out.word k
          have hxo := HP.out _ _ hxa hxb
          have eA : ∀ x : Ext wr, x.wd.cell? ⟨ga, oa + k, none⟩ = some (U (a.getD k 0)) := fun x => ((below_ext hB x).cell (p := ⟨ga, oa + k, none⟩) hga).trans hca
          have eB : ∀ x : Ext wr, x.wd.cell? ⟨gb, ob + k, none⟩ = some (U (b.getD k 0)) := fun x => ((below_ext hB x).cell (p := ⟨gb, ob + k, none⟩) hgb).trans hcb
          have HO2 : ∀ w : World, Calls Tryd.prog _ #[U (a.getD k 0), U (b.getD k 0)] w fun e W' => e = .returned (U (op (a.getD k 0) (b.getD k 0))) ∧ W' = w := HO.out _ _ hxa hxb
          have HJS : Hid (∀ W', Below wr.heap.size wr W' → JoinAt (W'.setCell ⟨g, k, none⟩ (U (op (a.getD k 0) (b.getD k 0)))) g op a b l (k + 1) (cs.set k (op (a.getD k 0) (b.getD k 0)))) := fun W' h => hJ.step h hkl hxo rfl
          have hbk := hJ.blk
          have hcl := hJ.len
          generalize op (a.getD k 0) (b.getD k 0) = z at *
          generalize a.getD k 0 = xa at *
          generalize b.getD k 0 = xb at *
          clear hca hcb hJ
          go_wp2
          refine wp_region_tail 13 hmx (by kernel_rfl) ?_
          simp only [List.take_succ_cons, List.take_zero, List.drop_succ_cons, List.drop_zero]
          repeat (go_big_quiet_step (exact calls_ext_same (HO2 _)))
          refine wpQuiet_nil ?_
          intro x
          have c1 := blk_get (hbk.later x.le) (i := k) (by rw [hcl]; exact hkl)
          have f1 := (hbk.later x.le).frozen k
          gi_wp2
          have hJ2 := HJS.out _ x.le
          have hBX := (below_ext hB x).setCell (p := ⟨g, k, none⟩) hg (U z)
          generalize x.wd.setCell ⟨g, k, none⟩ (U z) = W5 at *
          clear c1 f1 hbk eA eB
          go_wp2
          go_roundw
          case rel => exact ⟨k + 1, _, by omega, by go_num, hJ2, hBX⟩
          case measure => simp [RowKit.intOf]; omega
        · have e : k = l := by omega
          subst e
          have hz := (hJ.all HLA.out HLB.out).trans HZ.out.symm
          have hR : SetR wr w.heap.size (.slice (some ⟨g, 0, none⟩) k k) ans := by
            refine .inl ⟨by rw [← hz]; exact hJ.word, g, by rw [← hz, hJ.len], hg, by rw [← hz]; exact hJ.blk⟩
          clear hJ hz
          go_wp2
          go_ret2
          exact ⟨_, rfl, hR, hB⟩
  · have hz : ans = [] := by
      rw [HS.out]; unfold joinW; rw [if_neg]; rw [← HE.out]; exact h0
    subst hz
    subst hf
    all_goals
      go_enter Tryd.func21, Tryd.ntmps21
      go_wp2_with fail
      refine (HCK.out _ (Blk.new w _ _) ((Below.refl _ w).alloc (Nat.le_refl _) _)).mono ?_
      rintro e w1 ⟨rfl, rfl⟩
      have hT := (Below.refl _ w).alloc (Nat.le_refl _) (.cells #[.slice aa a.length ca, .slice ab b.length cb] 36)
      generalize w.alloc (.cells #[.slice aa a.length ca, .slice ab b.length cb] 36) = W1 at *
      go_wp2
      go_ret2
      exact ⟨_, rfl, .inr ⟨rfl, rfl⟩, hT⟩

set_option maxRecDepth 100000 in
set_option maxHeartbeats 4000000 in
theorem join_or {f : FuncId} {op : Nat → Nat → Nat} (hf : f = 22)
    (H : ∀ (x y : Nat), x < 18446744073709551616 → y < 18446744073709551616 → ∀ w : World, Calls Tryd.prog f #[U x, U y] w fun e W' => e = .returned (U (op x y)) ∧ W' = w)
    (hop : ∀ x y, x < 18446744073709551616 → y < 18446744073709551616 → op x y < 18446744073709551616)
    {va vb : Value} {a b : List Nat} (w : World) (ha : Wds w va a) (hb : Wds w vb b) (n : Int) :
    Calls Tryd.prog 21 #[I n, va, vb, .func (.func f) #[] #[]] w fun e W' => ∃ v, e = .returned (.tuple #[v, I (errAll n [a, b])]) ∧ SetR W' w.heap.size v (joinW op n a b) ∧ Below w.heap.size w W' := by
  have hmx : Tryd.prog.follows .mixedOrders = true := by kernel_rfl
  have HO : Hid (∀ (x y : Nat), x < 18446744073709551616 → y < 18446744073709551616 → ∀ w : World, Calls Tryd.prog f #[U x, U y] w fun e W' => e = .returned (U (op x y)) ∧ W' = w) := H
  have HP : Hid (∀ x y, x < 18446744073709551616 → y < 18446744073709551616 → op x y < 18446744073709551616) := hop
  have HA : Hid (Wds w va a) := ha
  have HB : Hid (Wds w vb b) := hb
  clear H hop
  have hck : ∀ W, Blk W w.heap.size 36 #[va, vb] → Below w.heap.size w W → Calls Tryd.prog 25 #[I n, .slice (some ⟨w.heap.size, 0, none⟩) 2 2] W fun e W' => e = .returned (I (errAll n [a, b])) ∧ W' = W := by
    intro W hW hB
    refine check_calls (vs := [va, vb]) (wss := [a, b]) W (Sl.blk hW 2) rfl (by simp) ?_ n
    intro i hi
    match i, hi with
    | 0, _ => exact ha.later hB
    | 1, _ => exact hb.later hB
  have HCK : Hid (∀ W, Blk W w.heap.size 36 #[va, vb] → Below w.heap.size w W → Calls Tryd.prog 25 #[I n, .slice (some ⟨w.heap.size, 0, none⟩) 2 2] W fun e W' => e = .returned (I (errAll n [a, b])) ∧ W' = W) := hck
  obtain ⟨aa, ca, rfl, hva⟩ := ha.view
  obtain ⟨ab, cb, rfl, hvb⟩ := hb.view
  have HVA : Hid (∀ k, k < a.length → ∃ g off, aa = some ⟨g, off, none⟩ ∧ g < w.heap.size ∧ w.cell? ⟨g, off + k, none⟩ = some (U (a.getD k 0))) := hva
  have HVB : Hid (∀ k, k < b.length → ∃ g off, ab = some ⟨g, off, none⟩ ∧ g < w.heap.size ∧ w.cell? ⟨g, off + k, none⟩ = some (U (b.getD k 0))) := hvb
  clear hva hvb ha hb hck
  obtain ⟨er, her⟩ : ∃ er, er = errAll n [a, b] := ⟨_, rfl⟩
  obtain ⟨ans, hans⟩ : ∃ ans, ans = joinW op n a b := ⟨_, rfl⟩
  rw [← her, ← hans]
  rw [← her] at HCK
  have HE : Hid (er = errAll n [a, b]) := her
  have HS : Hid (ans = joinW op n a b) := hans
  clear her hans
  by_cases h0 : er = 0
  · subst h0
    obtain ⟨h1, h2, hma, hmb⟩ := err_two HE.out.symm
    obtain ⟨m, rfl⟩ : ∃ m : Nat, n = m := ⟨n.toNat, by omega⟩
    rw [Int.toNat_natCast] at hma hmb
    have hla := (mayS_iff.1 hma).1
    have hlb := (mayS_iff.1 hmb).1
    have HW := fun w => words_calls m w (by omega)
    have hl2 : (m + 63) / 64 ≤ 192 := by omega
    have HLA : Hid (a.length = (m + 63) / 64) := hla
    have HLB : Hid (b.length = (m + 63) / 64) := hlb
    have HZ : Hid (ans = List.zipWith op a b) := by
      rw [HS.out]; unfold joinW; rw [if_pos HE.out.symm]; exact rfl
    clear hma hmb hla hlb HS HE
    generalize (m + 63) / 64 = l at *
    have HWH : Hid (∀ w : World, Calls Tryd.prog 26 #[I (m : Int)] w fun e W' => e = .returned (I (l : Int)) ∧ W' = w) := HW
    clear HW
    subst hf
    all_goals
      go_enter Tryd.func21, Tryd.ntmps21
      go_wp2_with fail
      refine (HCK.out _ (Blk.new w _ _) ((Below.refl _ w).alloc (Nat.le_refl _) _)).mono ?_
      rintro e w1 ⟨rfl, rfl⟩
      have hT := (Below.refl _ w).alloc (Nat.le_refl _) (.cells #[.slice aa a.length ca, .slice ab b.length cb] 36)
      generalize w.alloc (.cells #[.slice aa a.length ca, .slice ab b.length cb] 36) = W1 at *
      go_wp2_with fail
      refine (HWH.out _).mono ?_
      rintro e w1 ⟨rfl, rfl⟩
      go_wp2_with (at_make; refine wpList_mkW rfl _ _ rfl l rfl rfl (by omega) ?_; intro w2 hK hT2)
      have hJ : JoinAt w2 w1.heap.size op a b l 0 (List.replicate l 0) := ⟨by simp, (IsSet.none l).word, fun j hj => by omega, hK⟩
      have hT3 := then_below hT hT2
      have hg : w.heap.size ≤ w1.heap.size := hT.size
      generalize w1.heap.size = g at *
      clear hK hT2
      go_wp2
      go_loopw [26] (fun i wr => ∃ (k : Nat) (cs : List Nat), k ≤ l ∧ i = .int .i64 k ∧ JoinAt wr g op a b l k cs ∧ Below w.heap.size w wr) (fun i _ => l - (RowKit.intOf i).toNat)
      case atStart => exact ⟨0, _, by omega, rfl, hJ, hT3⟩
      case round =>
        clear hJ hT3
        obtain ⟨k, cs, hk, rfl, hJ, hB⟩ := hrel
        by_cases hlt : (k : Int) < (l : Int)
        · have hkl : k < l := by omega
          obtain ⟨ga, oa, rfl, hga, hca⟩ := HVA.out k (by rw [HLA.out]; exact hkl)
          obtain ⟨gb, ob, rfl, hgb, hcb⟩ := HVB.out k (by rw [HLB.out]; exact hkl)
          have hka : (k : Int) < (a.length : Int) := by rw [HLA.out]; exact hlt
          have hkb : (k : Int) < (b.length : Int) := by rw [HLB.out]; exact hlt
          have hxa := HA.out.word k
          have hxb := HB.out.word k
          have hxo := HP.out _ _ hxa hxb
          have eA : ∀ x : Ext wr, x.wd.cell? ⟨ga, oa + k, none⟩ = some (U (a.getD k 0)) := fun x => ((below_ext hB x).cell (p := ⟨ga, oa + k, none⟩) hga).trans hca
          have eB : ∀ x : Ext wr, x.wd.cell? ⟨gb, ob + k, none⟩ = some (U (b.getD k 0)) := fun x => ((below_ext hB x).cell (p := ⟨gb, ob + k, none⟩) hgb).trans hcb
          have HO2 : ∀ w : World, Calls Tryd.prog _ #[U (a.getD k 0), U (b.getD k 0)] w fun e W' => e = .returned (U (op (a.getD k 0) (b.getD k 0))) ∧ W' = w := HO.out _ _ hxa hxb
          have HJS : Hid (∀ W', Below wr.heap.size wr W' → JoinAt (W'.setCell ⟨g, k, none⟩ (U (op (a.getD k 0) (b.getD k 0)))) g op a b l (k + 1) (cs.set k (op (a.getD k 0) (b.getD k 0)))) := fun W' h => hJ.step h hkl hxo rfl
          have hbk := hJ.blk
          have hcl := hJ.len
          generalize op (a.getD k 0) (b.getD k 0) = z at *
          generalize a.getD k 0 = xa at *
          generalize b.getD k 0 = xb at *
          clear hca hcb hJ
          go_wp2
          refine wp_region_tail 13 hmx (by kernel_rfl) ?_
          simp only [List.take_succ_cons, List.take_zero, List.drop_succ_cons, List.drop_zero]
          repeat (go_big_quiet_step (exact calls_ext_same (HO2 _)))
          refine wpQuiet_nil ?_
          intro x
          have c1 := blk_get (hbk.later x.le) (i := k) (by rw [hcl]; exact hkl)
          have f1 := (hbk.later x.le).frozen k
          gi_wp2
          have hJ2 := HJS.out _ x.le
          have hBX := (below_ext hB x).setCell (p := ⟨g, k, none⟩) hg (U z)
          generalize x.wd.setCell ⟨g, k, none⟩ (U z) = W5 at *
          clear c1 f1 hbk eA eB
          go_wp2
          go_roundw
          case rel => exact ⟨k + 1, _, by omega, by go_num, hJ2, hBX⟩
          case measure => simp [RowKit.intOf]; omega
        · have e : k = l := by omega
          subst e
          have hz := (hJ.all HLA.out HLB.out).trans HZ.out.symm
          have hR : SetR wr w.heap.size (.slice (some ⟨g, 0, none⟩) k k) ans := by
            refine .inl ⟨by rw [← hz]; exact hJ.word, g, by rw [← hz, hJ.len], hg, by rw [← hz]; exact hJ.blk⟩
          clear hJ hz
          go_wp2
          go_ret2
          exact ⟨_, rfl, hR, hB⟩
  · have hz : ans = [] := by
      rw [HS.out]; unfold joinW; rw [if_neg]; rw [← HE.out]; exact h0
    subst hz
    subst hf
    all_goals
      go_enter Tryd.func21, Tryd.ntmps21
      go_wp2_with fail
      refine (HCK.out _ (Blk.new w _ _) ((Below.refl _ w).alloc (Nat.le_refl _) _)).mono ?_
      rintro e w1 ⟨rfl, rfl⟩
      have hT := (Below.refl _ w).alloc (Nat.le_refl _) (.cells #[.slice aa a.length ca, .slice ab b.length cb] 36)
      generalize w.alloc (.cells #[.slice aa a.length ca, .slice ab b.length cb] 36) = W1 at *
      go_wp2
      go_ret2
      exact ⟨_, rfl, .inr ⟨rfl, rfl⟩, hT⟩

set_option maxRecDepth 100000 in
set_option maxHeartbeats 4000000 in
theorem join_less {f : FuncId} {op : Nat → Nat → Nat} (hf : f = 30)
    (H : ∀ (x y : Nat), x < 18446744073709551616 → y < 18446744073709551616 → ∀ w : World, Calls Tryd.prog f #[U x, U y] w fun e W' => e = .returned (U (op x y)) ∧ W' = w)
    (hop : ∀ x y, x < 18446744073709551616 → y < 18446744073709551616 → op x y < 18446744073709551616)
    {va vb : Value} {a b : List Nat} (w : World) (ha : Wds w va a) (hb : Wds w vb b) (n : Int) :
    Calls Tryd.prog 21 #[I n, va, vb, .func (.func f) #[] #[]] w fun e W' => ∃ v, e = .returned (.tuple #[v, I (errAll n [a, b])]) ∧ SetR W' w.heap.size v (joinW op n a b) ∧ Below w.heap.size w W' := by
  have hmx : Tryd.prog.follows .mixedOrders = true := by kernel_rfl
  have HO : Hid (∀ (x y : Nat), x < 18446744073709551616 → y < 18446744073709551616 → ∀ w : World, Calls Tryd.prog f #[U x, U y] w fun e W' => e = .returned (U (op x y)) ∧ W' = w) := H
  have HP : Hid (∀ x y, x < 18446744073709551616 → y < 18446744073709551616 → op x y < 18446744073709551616) := hop
  have HA : Hid (Wds w va a) := ha
  have HB : Hid (Wds w vb b) := hb
  clear H hop
  have hck : ∀ W, Blk W w.heap.size 36 #[va, vb] → Below w.heap.size w W → Calls Tryd.prog 25 #[I n, .slice (some ⟨w.heap.size, 0, none⟩) 2 2] W fun e W' => e = .returned (I (errAll n [a, b])) ∧ W' = W := by
    intro W hW hB
    refine check_calls (vs := [va, vb]) (wss := [a, b]) W (Sl.blk hW 2) rfl (by simp) ?_ n
    intro i hi
    match i, hi with
    | 0, _ => exact ha.later hB
    | 1, _ => exact hb.later hB
  have HCK : Hid (∀ W, Blk W w.heap.size 36 #[va, vb] → Below w.heap.size w W → Calls Tryd.prog 25 #[I n, .slice (some ⟨w.heap.size, 0, none⟩) 2 2] W fun e W' => e = .returned (I (errAll n [a, b])) ∧ W' = W) := hck
  obtain ⟨aa, ca, rfl, hva⟩ := ha.view
  obtain ⟨ab, cb, rfl, hvb⟩ := hb.view
  have HVA : Hid (∀ k, k < a.length → ∃ g off, aa = some ⟨g, off, none⟩ ∧ g < w.heap.size ∧ w.cell? ⟨g, off + k, none⟩ = some (U (a.getD k 0))) := hva
  have HVB : Hid (∀ k, k < b.length → ∃ g off, ab = some ⟨g, off, none⟩ ∧ g < w.heap.size ∧ w.cell? ⟨g, off + k, none⟩ = some (U (b.getD k 0))) := hvb
  clear hva hvb ha hb hck
  obtain ⟨er, her⟩ : ∃ er, er = errAll n [a, b] := ⟨_, rfl⟩
  obtain ⟨ans, hans⟩ : ∃ ans, ans = joinW op n a b := ⟨_, rfl⟩
  rw [← her, ← hans]
  rw [← her] at HCK
  have HE : Hid (er = errAll n [a, b]) := her
  have HS : Hid (ans = joinW op n a b) := hans
  clear her hans
  by_cases h0 : er = 0
  · subst h0
    obtain ⟨h1, h2, hma, hmb⟩ := err_two HE.out.symm
    obtain ⟨m, rfl⟩ : ∃ m : Nat, n = m := ⟨n.toNat, by omega⟩
    rw [Int.toNat_natCast] at hma hmb
    have hla := (mayS_iff.1 hma).1
    have hlb := (mayS_iff.1 hmb).1
    have HW := fun w => words_calls m w (by omega)
    have hl2 : (m + 63) / 64 ≤ 192 := by omega
    have HLA : Hid (a.length = (m + 63) / 64) := hla
    have HLB : Hid (b.length = (m + 63) / 64) := hlb
    have HZ : Hid (ans = List.zipWith op a b) := by
      rw [HS.out]; unfold joinW; rw [if_pos HE.out.symm]; exact rfl
    clear hma hmb hla hlb HS HE
    generalize (m + 63) / 64 = l at *
    have HWH : Hid (∀ w : World, Calls Tryd.prog 26 #[I (m : Int)] w fun e W' => e = .returned (I (l : Int)) ∧ W' = w) := HW
    clear HW
    subst hf
    all_goals
      go_enter Tryd.func21, Tryd.ntmps21
      go_wp2_with fail
      refine (HCK.out _ (Blk.new w _ _) ((Below.refl _ w).alloc (Nat.le_refl _) _)).mono ?_
      rintro e w1 ⟨rfl, rfl⟩
      have hT := (Below.refl _ w).alloc (Nat.le_refl _) (.cells #[.slice aa a.length ca, .slice ab b.length cb] 36)
      generalize w.alloc (.cells #[.slice aa a.length ca, .slice ab b.length cb] 36) = W1 at *
      go_wp2_with fail
      refine (HWH.out _).mono ?_
      rintro e w1 ⟨rfl, rfl⟩
      go_wp2_with (at_make; refine wpList_mkW rfl _ _ rfl l rfl rfl (by omega) ?_; intro w2 hK hT2)
      have hJ : JoinAt w2 w1.heap.size op a b l 0 (List.replicate l 0) := ⟨by simp, (IsSet.none l).word, fun j hj => by omega, hK⟩
      have hT3 := then_below hT hT2
      have hg : w.heap.size ≤ w1.heap.size := hT.size
      generalize w1.heap.size = g at *
      clear hK hT2
      go_wp2
      go_loopw [26] (fun i wr => ∃ (k : Nat) (cs : List Nat), k ≤ l ∧ i = .int .i64 k ∧ JoinAt wr g op a b l k cs ∧ Below w.heap.size w wr) (fun i _ => l - (RowKit.intOf i).toNat)
      case atStart => exact ⟨0, _, by omega, rfl, hJ, hT3⟩
      case round =>
        clear hJ hT3
        obtain ⟨k, cs, hk, rfl, hJ, hB⟩ := hrel
        by_cases hlt : (k : Int) < (l : Int)
        · have hkl : k < l := by omega
          obtain ⟨ga, oa, rfl, hga, hca⟩ := HVA.out k (by rw [HLA.out]; exact hkl)
          obtain ⟨gb, ob, rfl, hgb, hcb⟩ := HVB.out k (by rw [HLB.out]; exact hkl)
          have hka : (k : Int) < (a.length : Int) := by rw [HLA.out]; exact hlt
          have hkb : (k : Int) < (b.length : Int) := by rw [HLB.out]; exact hlt
          have hxa := HA.out.word k
          have hxb := HB.out.word k
          have hxo := HP.out _ _ hxa hxb
          have eA : ∀ x : Ext wr, x.wd.cell? ⟨ga, oa + k, none⟩ = some (U (a.getD k 0)) := fun x => ((below_ext hB x).cell (p := ⟨ga, oa + k, none⟩) hga).trans hca
          have eB : ∀ x : Ext wr, x.wd.cell? ⟨gb, ob + k, none⟩ = some (U (b.getD k 0)) := fun x => ((below_ext hB x).cell (p := ⟨gb, ob + k, none⟩) hgb).trans hcb
          have HO2 : ∀ w : World, Calls Tryd.prog _ #[U (a.getD k 0), U (b.getD k 0)] w fun e W' => e = .returned (U (op (a.getD k 0) (b.getD k 0))) ∧ W' = w := HO.out _ _ hxa hxb
          have HJS : Hid (∀ W', Below wr.heap.size wr W' → JoinAt (W'.setCell ⟨g, k, none⟩ (U (op (a.getD k 0) (b.getD k 0)))) g op a b l (k + 1) (cs.set k (op (a.getD k 0) (b.getD k 0)))) := fun W' h => hJ.step h hkl hxo rfl
          have hbk := hJ.blk
          have hcl := hJ.len
          generalize op (a.getD k 0) (b.getD k 0) = z at *
          generalize a.getD k 0 = xa at *
          generalize b.getD k 0 = xb at *
          clear hca hcb hJ
          go_wp2
          refine wp_region_tail 13 hmx (by kernel_rfl) ?_
          simp only [List.take_succ_cons, List.take_zero, List.drop_succ_cons, List.drop_zero]
          repeat (go_big_quiet_step (exact calls_ext_same (HO2 _)))
          refine wpQuiet_nil ?_
          intro x
          have c1 := blk_get (hbk.later x.le) (i := k) (by rw [hcl]; exact hkl)
          have f1 := (hbk.later x.le).frozen k
          gi_wp2
          have hJ2 := HJS.out _ x.le
          have hBX := (below_ext hB x).setCell (p := ⟨g, k, none⟩) hg (U z)
          generalize x.wd.setCell ⟨g, k, none⟩ (U z) = W5 at *
          clear c1 f1 hbk eA eB
          go_wp2
          go_roundw
          case rel => exact ⟨k + 1, _, by omega, by go_num, hJ2, hBX⟩
          case measure => simp [RowKit.intOf]; omega
        · have e : k = l := by omega
          subst e
          have hz := (hJ.all HLA.out HLB.out).trans HZ.out.symm
          have hR : SetR wr w.heap.size (.slice (some ⟨g, 0, none⟩) k k) ans := by
            refine .inl ⟨by rw [← hz]; exact hJ.word, g, by rw [← hz, hJ.len], hg, by rw [← hz]; exact hJ.blk⟩
          clear hJ hz
          go_wp2
          go_ret2
          exact ⟨_, rfl, hR, hB⟩
  · have hz : ans = [] := by
      rw [HS.out]; unfold joinW; rw [if_neg]; rw [← HE.out]; exact h0
    subst hz
    subst hf
    all_goals
      go_enter Tryd.func21, Tryd.ntmps21
      go_wp2_with fail
      refine (HCK.out _ (Blk.new w _ _) ((Below.refl _ w).alloc (Nat.le_refl _) _)).mono ?_
      rintro e w1 ⟨rfl, rfl⟩
      have hT := (Below.refl _ w).alloc (Nat.le_refl _) (.cells #[.slice aa a.length ca, .slice ab b.length cb] 36)
      generalize w.alloc (.cells #[.slice aa a.length ca, .slice ab b.length cb] 36) = W1 at *
      go_wp2
      go_ret2
      exact ⟨_, rfl, .inr ⟨rfl, rfl⟩, hT⟩

end Go.Proofs.YtbedhpooeabehaaDoor

/-
  Words as plain arithmetic: how many bits are on (the sums by halves that math/bits makes), and the least bit that is on.
-/
namespace Go.Proofs.YtbedhpooeabehaaDoor
open Go

/-- How many of the lowest n bits of x are on. -/
def popTo : Nat → Nat → Nat
  | 0, _ => 0
  | n + 1, x => x % 2 + popTo n (x / 2)

theorem popTo_add (m : Nat) : ∀ (n x : Nat), popTo (n + m) x = popTo n x + popTo m (x / 2 ^ n)
  | 0, x => by simp [popTo]
  | n + 1, x => by
    rw [show n + 1 + m = (n + m) + 1 by omega, popTo, popTo, popTo_add m n (x / 2), Nat.div_div_eq_div_mul, Nat.pow_succ, Nat.mul_comm 2, Nat.add_assoc]
theorem popTo_low : ∀ (n x y : Nat), popTo n (2 ^ n * y + x) = popTo n x
  | 0, x, y => rfl
  | n + 1, x, y => by
    rw [popTo, popTo, ← popTo_low n (x / 2) y]
    rw [show 2 ^ (n + 1) * y + x = 2 * (2 ^ n * y) + x by rw [Nat.pow_succ]; ac_rfl]
    rw [show (2 * (2 ^ n * y) + x) % 2 = x % 2 by omega, show (2 * (2 ^ n * y) + x) / 2 = 2 ^ n * y + x / 2 by omega]
theorem popTo_byte (n y b : Nat) (hb : b < 256) : popTo (n + 8) (256 * y + b) = popTo 8 b + popTo n y := by
  rw [Nat.add_comm n 8, popTo_add, show (256 : Nat) = 2 ^ 8 from rfl, popTo_low, show (2 ^ 8 * y + b) / 2 ^ 8 = y by omega]

theorem and_byte (a b c d : Nat) (hb : b < 256) (hd : d < 256) : (256 * a + b) &&& (256 * c + d) = 256 * (a &&& c) + (b &&& d) := by
  have hbd : b &&& d < 2 ^ 8 := Nat.and_lt_two_pow _ hd
  apply Nat.eq_of_testBit_eq
  intro i
  rw [Nat.testBit_and, show (256 : Nat) = 2 ^ 8 from rfl, Nat.testBit_two_pow_mul_add _ hb, Nat.testBit_two_pow_mul_add _ hd, Nat.testBit_two_pow_mul_add _ hbd]
  split <;> simp

/-- The masks of n bytes. -/
def rep (d : Nat) : Nat → Nat
  | 0 => 0
  | n + 1 => 256 * rep d n + d

def st1 (n x : Nat) : Nat := (x / 2 &&& rep 85 n) + (x &&& rep 85 n)
def st2 (n x : Nat) : Nat := (x / 4 &&& rep 51 n) + (x &&& rep 51 n)
def st3 (n x : Nat) : Nat := (x / 16 + x) &&& rep 15 n

theorem byte1 : ∀ b, b < 256 → ∀ t, t < 2 → (128 * t + b / 2 &&& 85) + (b &&& 85) = (b / 2 &&& 85) + (b &&& 85) ∧ (b / 2 &&& 85) + (b &&& 85) < 256 := by decide +kernel
theorem byte2 : ∀ b, b < 256 → ∀ t, t < 4 → (64 * t + b / 4 &&& 51) + (b &&& 51) = (b / 4 &&& 51) + (b &&& 51) ∧ (b / 4 &&& 51) + (b &&& 51) < 256 := by decide +kernel
/-- A byte's bits, summed by halves. -/
def b1 (b : Nat) : Nat := (b / 2 &&& 85) + (b &&& 85)
def b2 (b : Nat) : Nat := (b1 b / 4 &&& 51) + (b1 b &&& 51)
theorem byte3 : ∀ b, b < 256 → ∀ t, t < 5 → 16 * t + b2 b / 16 + b2 b < 256 ∧ (16 * t + b2 b / 16 + b2 b &&& 15) = popTo 8 b ∧ b2 b % 16 < 5 ∧ b1 b < 256 ∧ b2 b < 256 ∧ popTo 8 b ≤ 8 := by decide +kernel

theorem st1_step (n y b : Nat) (hb : b < 256) : st1 (n + 1) (256 * y + b) = 256 * st1 n y + b1 b := by
  unfold st1
  have h := byte1 b hb (y % 2) (by omega)
  rw [show (256 * y + b) / 2 = 256 * (y / 2) + (128 * (y % 2) + b / 2) by omega, rep, and_byte _ _ _ _ (by omega) (by omega), and_byte _ _ _ _ hb (by omega)]
  unfold b1
  omega
theorem st2_step (n y b : Nat) (hb : b < 256) : st2 (n + 1) (256 * y + b1 b) = 256 * st2 n y + b2 b := by
  have hb1 : b1 b < 256 := (byte3 b hb 0 (by omega)).2.2.2.1
  unfold st2
  have h := byte2 (b1 b) hb1 (y % 4) (by omega)
  rw [show (256 * y + b1 b) / 4 = 256 * (y / 4) + (64 * (y % 4) + b1 b / 4) by omega, rep, and_byte _ _ _ _ (by omega) (by omega), and_byte _ _ _ _ hb1 (by omega)]
  unfold b2
  omega
theorem st3_step (n y b : Nat) (hb : b < 256) (hy : y % 16 < 5) : st3 (n + 1) (256 * y + b2 b) = 256 * st3 n y + popTo 8 b := by
  have h := byte3 b hb (y % 16) hy
  unfold st3
  rw [show (256 * y + b2 b) / 16 + (256 * y + b2 b) = 256 * (y / 16 + y) + (16 * (y % 16) + b2 b / 16 + b2 b) by omega, rep, and_byte _ _ _ _ h.1 (by omega), h.2.1]

theorem st12 : ∀ (n x : Nat), x < 256 ^ n → st2 n (st1 n x) % 16 < 5
  | 0, x, h => by simp [st1, st2, rep]
  | n + 1, x, h => by
    have e : x = 256 * (x / 256) + x % 256 := by omega
    have hb : x % 256 < 256 := by omega
    rw [e, st1_step _ _ _ hb, st2_step _ _ _ hb]
    have := (byte3 _ hb 0 (by omega)).2.2.1
    omega
/-- The bytes' sums. -/
theorem st_bytes (n x : Nat) (h : x < 256 ^ (n + 1)) : st3 (n + 1) (st2 (n + 1) (st1 (n + 1) x)) = 256 * st3 n (st2 n (st1 n (x / 256))) + popTo 8 (x % 256) := by
  have e : x = 256 * (x / 256) + x % 256 := by omega
  have hb : x % 256 < 256 := by omega
  have h' : x / 256 < 256 ^ n := by rw [Nat.pow_succ] at h; omega
  conv => lhs; rw [e]
  rw [st1_step _ _ _ hb, st2_step _ _ _ hb, st3_step _ _ _ hb (st12 n _ h')]
theorem pop8 (b : Nat) (h : b < 256) : popTo 8 b ≤ 8 := (byte3 b h 0 (by omega)).2.2.2.2.2
theorem pop_byte (n x : Nat) : popTo (n + 8) x = popTo 8 (x % 256) + popTo n (x / 256) := by
  conv => lhs; rw [show x = 256 * (x / 256) + x % 256 by omega]
  exact popTo_byte _ _ _ (by omega)

theorem fold8 (a0 a1 a2 a3 a4 a5 a6 a7 : Nat) (h0 : a0 ≤ 8) (h1 : a1 ≤ 8) (h2 : a2 ≤ 8) (h3 : a3 ≤ 8) (h4 : a4 ≤ 8) (h5 : a5 ≤ 8) (h6 : a6 ≤ 8) (h7 : a7 ≤ 8) (z y x : Nat)
    (hz : z = a0 + 256 * a1 + 65536 * a2 + 16777216 * a3 + 4294967296 * a4 + 1099511627776 * a5 + 281474976710656 * a6 + 72057594037927936 * a7) (hy : y = z + z / 256) (hx : x = y + y / 65536) :
    (x + x / 4294967296) % 128 = a0 + a1 + a2 + a3 + a4 + a5 + a6 + a7 := by
  have z1 : z / 256 = a1 + 256 * a2 + 65536 * a3 + 16777216 * a4 + 4294967296 * a5 + 1099511627776 * a6 + 281474976710656 * a7 := by omega
  have y0 : y = (a0 + a1) + 256 * (a1 + a2) + 65536 * (a2 + a3) + 16777216 * (a3 + a4) + 4294967296 * (a4 + a5) + 1099511627776 * (a5 + a6) + 281474976710656 * (a6 + a7) + 72057594037927936 * a7 := by omega
  clear hz hy z1
  have y1 : y / 65536 = (a2 + a3) + 256 * (a3 + a4) + 65536 * (a4 + a5) + 16777216 * (a5 + a6) + 4294967296 * (a6 + a7) + 1099511627776 * a7 := by omega
  have x0 : x = (a0 + a1 + a2 + a3) + 256 * (a1 + a2 + a3 + a4) + 65536 * (a2 + a3 + a4 + a5) + 16777216 * (a3 + a4 + a5 + a6) + 4294967296 * (a4 + a5 + a6 + a7) + 1099511627776 * (a5 + a6 + a7) + 281474976710656 * (a6 + a7) + 72057594037927936 * a7 := by omega
  clear hx y0 y1
  have x1 : x / 4294967296 = (a4 + a5 + a6 + a7) + 256 * (a5 + a6 + a7) + 65536 * (a6 + a7) + 16777216 * a7 := by omega
  omega

/-- What math/bits reckons. -/
theorem ones_eq (x : Nat) (h : x < 18446744073709551616) : ∃ z, st3 8 (st2 8 (st1 8 x)) = z ∧ z < 578721382704613385 ∧ st1 8 x < 18446744073709551616 ∧ st2 8 (st1 8 x) / 16 + st2 8 (st1 8 x) < 18446744073709551616 ∧
    ((z + z / 256) + (z + z / 256) / 65536 + ((z + z / 256) + (z + z / 256) / 65536) / 4294967296) % 128 = popTo 64 x ∧ popTo 64 x ≤ 64 := by
  have p0 := pop8 (x % 256) (by omega)
  have p1 := pop8 (x / 256 % 256) (by omega)
  have p2 := pop8 (x / 256 / 256 % 256) (by omega)
  have p3 := pop8 (x / 256 / 256 / 256 % 256) (by omega)
  have p4 := pop8 (x / 256 / 256 / 256 / 256 % 256) (by omega)
  have p5 := pop8 (x / 256 / 256 / 256 / 256 / 256 % 256) (by omega)
  have p6 := pop8 (x / 256 / 256 / 256 / 256 / 256 / 256 % 256) (by omega)
  have p7 := pop8 (x / 256 / 256 / 256 / 256 / 256 / 256 / 256 % 256) (by omega)
  have e0 := st_bytes 7 x (by omega)
  have e1 := st_bytes 6 (x / 256) (by omega)
  have e2 := st_bytes 5 (x / 256 / 256) (by omega)
  have e3 := st_bytes 4 (x / 256 / 256 / 256) (by omega)
  have e4 := st_bytes 3 (x / 256 / 256 / 256 / 256) (by omega)
  have e5 := st_bytes 2 (x / 256 / 256 / 256 / 256 / 256) (by omega)
  have e6 := st_bytes 1 (x / 256 / 256 / 256 / 256 / 256 / 256) (by omega)
  have e7 := st_bytes 0 (x / 256 / 256 / 256 / 256 / 256 / 256 / 256) (by omega)
  have ez : st3 0 (st2 0 (st1 0 (x / 256 / 256 / 256 / 256 / 256 / 256 / 256 / 256))) = 0 := by simp [st1, st2, st3, rep]
  have q0 := pop_byte 56 x
  have q1 := pop_byte 48 (x / 256)
  have q2 := pop_byte 40 (x / 256 / 256)
  have q3 := pop_byte 32 (x / 256 / 256 / 256)
  have q4 := pop_byte 24 (x / 256 / 256 / 256 / 256)
  have q5 := pop_byte 16 (x / 256 / 256 / 256 / 256 / 256)
  have q6 := pop_byte 8 (x / 256 / 256 / 256 / 256 / 256 / 256)
  have q7 := pop_byte 0 (x / 256 / 256 / 256 / 256 / 256 / 256 / 256)
  have qz : popTo 0 (x / 256 / 256 / 256 / 256 / 256 / 256 / 256 / 256) = 0 := rfl
  simp only [Nat.reduceAdd] at e0 e1 e2 e3 e4 e5 e6 e7 q0 q1 q2 q3 q4 q5 q6 q7
  have er : rep 51 8 = 3689348814741910323 := by decide
  have es : rep 85 8 = 6148914691236517205 := by decide
  have hx2 : st2 8 (st1 8 x) ≤ 7378697629483820646 := by
    have r1 : st2 8 (st1 8 x) = (st1 8 x / 4 &&& rep 51 8) + (st1 8 x &&& rep 51 8) := rfl
    have l1 : st1 8 x / 4 &&& rep 51 8 ≤ rep 51 8 := Nat.and_le_right
    have l2 : st1 8 x &&& rep 51 8 ≤ rep 51 8 := Nat.and_le_right
    omega
  have hx1 : st1 8 x ≤ 12297829382473034410 := by
    have r1 : st1 8 x = (x / 2 &&& rep 85 8) + (x &&& rep 85 8) := rfl
    have l1 : x / 2 &&& rep 85 8 ≤ rep 85 8 := Nat.and_le_right
    have l2 : x &&& rep 85 8 ≤ rep 85 8 := Nat.and_le_right
    omega
  have ze : st3 8 (st2 8 (st1 8 x)) = popTo 8 (x % 256) + 256 * popTo 8 (x / 256 % 256) + 65536 * popTo 8 (x / 256 / 256 % 256) + 16777216 * popTo 8 (x / 256 / 256 / 256 % 256) + 4294967296 * popTo 8 (x / 256 / 256 / 256 / 256 % 256) + 1099511627776 * popTo 8 (x / 256 / 256 / 256 / 256 / 256 % 256) + 281474976710656 * popTo 8 (x / 256 / 256 / 256 / 256 / 256 / 256 % 256) + 72057594037927936 * popTo 8 (x / 256 / 256 / 256 / 256 / 256 / 256 / 256 % 256) := by omega
  refine ⟨_, ze, by omega, by omega, by omega, ?_, by omega⟩
  rw [fold8 _ _ _ _ _ _ _ _ p0 p1 p2 p3 p4 p5 p6 p7 _ _ _ rfl rfl rfl]
  omega

end Go.Proofs.YtbedhpooeabehaaDoor
