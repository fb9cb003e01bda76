/-
  The document's put: a rising list with one more, if it is not there.
-/
import Derived.Test.YtldcagjnngkabaaGreatDoorPart28
import Derived.Test.YtldcagjnngkabaaGreatDoorPart9
import Derived.Test.YtldcagjnngkabaaGreatDoorPart5
import Derived.Test.YtldcagjnngkabaaGreatDoorPart35
namespace Go.Proofs.YtldcagjnngkabaaGreatDoor
open Go Go.RowKit Go.Shelf

attribute [local go_sem] Oper.semAt_some ext_const

/-- What was put together of the numbers gone by. -/
def PutSt (n : Int) (pre : List Int) (q : Bool) (out : List Int) : Prop := (q = false ∧ out = pre ∧ ∀ y ∈ pre, y < n) ∨ (q = true ∧ out = insI n pre ∧ ∃ y ∈ pre, n ≤ y)
theorem put_start (n : Int) : PutSt n [] false [] := .inl ⟨rfl, rfl, fun y hy => by cases hy⟩
theorem put_new {n x : Int} {pre out : List Int} (h : PutSt n pre false out) (hx : n < x) : PutSt n (pre ++ [x]) true (out ++ [n] ++ [x]) := by
  rcases h with ⟨_, rfl, h⟩ | ⟨h, _⟩
  · exact .inr ⟨rfl, (insI_new hx h).symm, x, by simp, by omega⟩
  · cases h
theorem put_old {n x : Int} {pre out : List Int} (h : PutSt n pre false out) (hx : x < n) : PutSt n (pre ++ [x]) false (out ++ [x]) := by
  rcases h with ⟨_, rfl, h⟩ | ⟨h, _⟩
  · refine .inl ⟨rfl, rfl, fun y hy => ?_⟩
    rcases List.mem_append.1 hy with hy | hy
    · exact h y hy
    · rw [List.mem_singleton.1 hy]; exact hx
  · cases h
theorem put_done {n x : Int} {pre out : List Int} (h : PutSt n pre true out) : PutSt n (pre ++ [x]) true (out ++ [x]) := by
  rcases h with ⟨h, _⟩ | ⟨_, rfl, y, hy, hn⟩
  · cases h
  · exact .inr ⟨rfl, (insI_more ⟨y, hy, hn⟩).symm, y, List.mem_append_left _ hy, hn⟩
theorem put_end {n : Int} {pre out : List Int} (h : PutSt n pre false out) : out ++ [n] = insI n pre := by
  rcases h with ⟨_, rfl, h⟩ | ⟨h, _⟩
  · exact (insI_end h).symm
  · cases h
theorem put_fin {n : Int} {pre out : List Int} (h : PutSt n pre true out) : out = insI n pre := by
  rcases h with ⟨h, _⟩ | ⟨_, h, _⟩
  · cases h
  · exact h
theorem putI_len {n : Int} {pre out : List Int} {q : Bool} (h : PutSt n pre q out) : out.length ≤ pre.length + 1 := by
  rcases h with ⟨_, rfl, _⟩ | ⟨_, rfl, _⟩
  · omega
  · exact insI_len _ _
theorem take_int {xs : List Int} {k : Nat} (hk : k < xs.length) : xs.take (k + 1) = xs.take k ++ [xs.getD k 0] := by
  rw [List.take_succ_eq_append_getElem hk]
  simp [hk]
theorem insI_at {n : Int} {xs : List Int} {k : Nat} (hu : UpI xs) (hk : k < xs.length) (h : xs.getD k 0 = n) : insI n xs = xs := insI_in hu (h ▸ ofList_mem hk)

set_option maxRecDepth 100000 in
set_option maxHeartbeats 4000000 in
theorem rputI_calls {b : Nat} {u : Value} {xs : List Int} {n : Int} (w : World) (hL : Lst w b u xs) (hb : b ≤ w.heap.size) (hu : UpI xs) (hn : xs.length ≤ 50000) :
    Calls Tryz.prog 83 #[u, I n] w fun e W' => ∃ v, e = .returned v ∧ Lst W' b v (insI n xs) ∧ Below w.heap.size w W' := by
  have hmx : Tryz.prog.follows .mixedOrders = true := by kernel_rfl
  have HU : Hid (Lst w b u xs) := hL
  obtain ⟨ao, cap, rfl, hA⟩ := hL.view
  have HA : Hid (∀ k : Nat, k < xs.length → ∃ g cur, ao = some ⟨g, 0, none⟩ ∧ Blk w g 3 cur ∧ cur[k]? = some (I (xs.getD k 0))) := hA
  have HI : Hid (∀ k, k < xs.length → xs.getD k 0 = n → insI n xs = xs) := fun k h1 h2 => insI_at hu h1 h2
  have HT : Hid (∀ k, k < xs.length → xs.take (k + 1) = xs.take k ++ [xs.getD k 0]) := fun k h => take_int h
  clear hL hA hu
  go_enter Tryz.func83, Tryz.ntmps83
  go_wp2
  go_loopw [5, 6, 7] (fun out dn i wr => ∃ (k : Nat) (q : Bool) (ys : List Int), k ≤ xs.length ∧ i = .int .i64 k ∧ dn = .bool q ∧ Lst wr w.heap.size out ys ∧ Hid (PutSt n (xs.take k) q ys) ∧ Below w.heap.size w wr) (fun _ _ i _ => xs.length - (RowKit.intOf i).toNat)
  case atStart => exact ⟨0, false, [], by omega, rfl, rfl, Lst.nil _ _, put_start n, Below.refl _ _⟩
  case round =>
    obtain ⟨k, q, ys, hk, rfl, rfl, hys, HS, hT⟩ := hrel
    by_cases hlt : (k : Int) < (xs.length : Int)
    · have hkx : k < xs.length := by omega
      obtain ⟨g, cur, rfl, hg, hc⟩ := HA.out k hkx
      have hlen := putI_len HS.out
      rw [List.length_take] at hlen
      have HI1 := HI.out k hkx
      have HT1 : Hid (xs.take (k + 1) = xs.take k ++ [xs.getD k 0]) := HT.out k hkx
      have HI1 : Hid (xs.getD k 0 = n → insI n xs = xs) := HI1
      generalize xs.getD k 0 = x at *
      have c0 := (hg.later hT).cell k
      rw [hc] at c0
      have hz := (hg.later hT).lt
      have HG : Hid (∀ wx, Below w.heap.size w wx → wx.cell? ⟨g, k, none⟩ = some (I x) ∧ g < wx.heap.size) := fun wx hb => ⟨((hg.later hb).cell k).trans hc, (hg.later hb).lt⟩
      clear hg hc
      by_cases he : x = n
      · subst he
        have HE : Hid (insI x xs = xs) := HI1.out rfl
        clear HI1
        go_wp2
        go_ret
        exact ⟨_, rfl, HU.out.later hT, hT⟩
      · have hne : (x == n) = false := by simpa using he
        have HNe : Hid (x ≠ n) := he
        clear he HI1 HI
        cases q
        · by_cases hgt : n < x
          · have hd : decide (n < x) = true := decide_eq_true hgt
            have HS2 : Hid (PutSt n (xs.take (k + 1)) true (ys ++ [n] ++ [x])) := by show PutSt _ _ _ _; rw [HT1.out]; exact put_new HS.out hgt
            clear hgt HNe HT1 HS
            have tok : True := trivial
            go_wp2_with (first
              | (at_builtin; have _t := tok; refine wpList_app rfl _ _ rfl rfl rfl hys (by omega) hT.size ?_; intro v5 w5 hL5 hT5; clear tok; have hT6 := hT.trans hT5; obtain ⟨c5, hz5⟩ := HG.out w5 hT6)
              | (at_builtin; refine wpList_app rfl _ _ rfl rfl rfl hL5 (by simp only [List.length_append, List.length_cons, List.length_nil]; omega) hT6.size ?_; intro v7 w7 hL7 hT7))
            go_roundw
            case rel => exact ⟨k + 1, true, _, by omega, by go_num, rfl, hL7, HS2, hT6.trans hT7⟩
            case measure => simp [RowKit.intOf]; omega
          · have hd : decide (n < x) = false := decide_eq_false hgt
            have HS2 : Hid (PutSt n (xs.take (k + 1)) false (ys ++ [x])) := by show PutSt _ _ _ _; rw [HT1.out]; exact put_old HS.out (by have := HNe.out; omega)
            clear hgt HNe HT1 HS
            go_wp2_with (at_builtin; refine wpList_app rfl _ _ rfl rfl rfl hys (by omega) hT.size ?_; intro v7 w7 hL7 hT7)
            go_roundw
            case rel => exact ⟨k + 1, false, _, by omega, by go_num, rfl, hL7, HS2, hT.trans hT7⟩
            case measure => simp [RowKit.intOf]; omega
        · have HS2 : Hid (PutSt n (xs.take (k + 1)) true (ys ++ [x])) := by show PutSt _ _ _ _; rw [HT1.out]; exact put_done HS.out
          clear HNe HT1 HS
          go_wp2_with (at_builtin; refine wpList_app rfl _ _ rfl rfl rfl hys (by omega) hT.size ?_; intro v7 w7 hL7 hT7)
          go_roundw
          case rel => exact ⟨k + 1, true, _, by omega, by go_num, rfl, hL7, HS2, hT.trans hT7⟩
          case measure => simp [RowKit.intOf]; omega
    · obtain rfl : k = xs.length := by omega
      have hlen := putI_len HS.out
      rw [List.take_length] at hlen HS
      cases q
      · have HE := put_end HS.out
        have HE : Hid (ys ++ [n] = insI n xs) := HE
        clear HS
        go_wp2_with (at_builtin; refine wpList_app rfl _ _ rfl rfl rfl hys (by omega) hT.size ?_; intro v7 w7 hL7 hT7)
        go_ret
        refine ⟨_, rfl, ?_, hT.trans hT7⟩
        rw [← HE.out]
        exact hL7.weak hb
      · have HE : Hid (ys = insI n xs) := put_fin HS.out
        clear HS
        go_wp2
        go_ret
        refine ⟨_, rfl, ?_, hT⟩
        rw [← HE.out]
        exact hys.weak hb

end Go.Proofs.YtldcagjnngkabaaGreatDoor

/-
  The document's all: the slots of all calendars, one behind the other, in new memory.
-/
namespace Go.Proofs.YtldcagjnngkabaaGreatDoor
open Go Go.RowKit Go.Shelf

attribute [local go_sem] Oper.semAt_some ext_const

set_option maxRecDepth 100000 in
set_option maxHeartbeats 4000000 in
theorem rallY_calls {a b c : Int} {n l : Value} {ns ls : List (List Slt)} (w : World) (hN : Yl w n ns) (hL : Yl w l ls) (htot : (slotsY ns ls).length ≤ 50000) (h1 : ns.length ≤ 100000) (h2 : ls.length ≤ 100000) :
    Calls Tryz.prog 82 #[Y5 a b c n l] w fun e W' => ∃ v, e = .returned v ∧ So W' w.heap.size v (slotsY ns ls) ∧ Below w.heap.size w W' := by
  have hmx : Tryz.prog.follows .mixedOrders = true := by kernel_rfl
  obtain ⟨W, hW, hB, hK⟩ := one_start w (K5 a b c n l) 26
  have HW : Hid (w.alloc (.cells (K5 a b c n l) 26) = W) := hW
  have HN : Hid (Yl W n ns) := hN.later hB
  have HL : Hid (Yl W l ls) := hL.later hB
  have hfl : (slotsY ns ls).length = ns.flatten.length + ls.flatten.length := by rw [slotsY, List.length_append]
  have HF1 : Hid (∀ k, k < ns.length → (ns.take (k + 1)).flatten = (ns.take k).flatten ++ ns.getD k []) := fun k h => flat_succ h
  have HF2 : Hid (∀ k, k < ls.length → (ls.take (k + 1)).flatten = (ls.take k).flatten ++ ls.getD k []) := fun k h => flat_succ h
  have HB1 : Hid (∀ k, k < ns.length → (ns.take k).flatten.length + (ns.getD k []).length ≤ 50000) := fun k h => by
    have := flat_le h (Nat.le_refl _)
    rw [List.length_append, List.take_length] at this
    omega
  have HB2 : Hid (∀ k, k < ls.length → (ns.flatten ++ (ls.take k).flatten).length + (ls.getD k []).length ≤ 50000) := fun k h => by
    have := flat_le h (Nat.le_refl _)
    rw [List.length_append, List.take_length] at this
    rw [List.length_append]
    omega
  have HZ : Hid (slotsY ns ls = ns.flatten ++ ls.flatten) := rfl
  obtain ⟨an, cn, rfl, _⟩ := hN.form
  obtain ⟨al, cl, rfl, _⟩ := hL.form
  clear hW hN hL htot hfl
  obtain ⟨p0, p1, p2, p3, p4, hz⟩ := hK.five
  go_enter Tryz.func82, Tryz.ntmps82
  go_wp2
  rw [HW.out]
  go_loopw [3, 4] (fun out i wr => ∃ k : Nat, k ≤ ns.length ∧ i = .int .i64 k ∧ So wr W.heap.size out (ns.take k).flatten ∧ Below W.heap.size W wr) (fun _ i _ => ns.length - (RowKit.intOf i).toNat)
  case atStart => exact ⟨0, by omega, rfl, So.nil _ _, Below.refl _ _⟩
  case round =>
    obtain ⟨k, hk, rfl, hS, hT⟩ := hrel
    clear p0 p1 p2 p3 p4 hz
    obtain ⟨p0, p1, p2, p3, p4, hz⟩ := hK.yard hT
    by_cases hlt : (k : Int) < (ns.length : Int)
    · have hkx : k < ns.length := by omega
      obtain ⟨g, off, bo, m, cc, rfl, hg, hcc, hs⟩ := (HN.out.later hT).get hkx
      have HE : Hid ((ns.take (k + 1)).flatten = (ns.take k).flatten ++ ns.getD k []) := HF1.out k hkx
      have HBk : Hid ((ns.take k).flatten.length + (ns.getD k []).length ≤ 50000) := HB1.out k hkx
      clear HB1 HF1
      generalize ns.getD k [] = xs at *
      go_wp2_with (at_builtin; refine wpList_catS rfl _ _ rfl rfl rfl hS hs (by have := HBk.out; omega) hT.size ?_; intro ao5 n5 cap5 w5 hS5 hT5)
      go_roundw
      case rel => exact ⟨k + 1, by omega, by go_num, by rw [HE.out]; exact hS5, hT.trans hT5⟩
      case measure => simp [RowKit.intOf]; omega
    · obtain rfl : k = ns.length := by omega
      have HS1 : Hid (So wr W.heap.size u3 ns.flatten) := by
        have := hS
        rw [List.take_length] at this
        exact this
      have hT1 := hT
      clear hS hT HB1 HF1
      go_wp2
      go_loopw [3, 5] (fun out i wr2 => ∃ k : Nat, k ≤ ls.length ∧ i = .int .i64 k ∧ So wr2 W.heap.size out (ns.flatten ++ (ls.take k).flatten) ∧ Below W.heap.size W wr2) (fun _ i _ => ls.length - (RowKit.intOf i).toNat)
      case atStart => exact ⟨0, by omega, rfl, by simpa using HS1.out, hT1⟩
      case round =>
        rename World => wr2
        obtain ⟨k, hk, rfl, hS, hT⟩ := hrel
        clear p0 p1 p2 p3 p4 hz
        obtain ⟨p0, p1, p2, p3, p4, hz⟩ := hK.yard hT
        by_cases hlt : (k : Int) < (ls.length : Int)
        · have hkx : k < ls.length := by omega
          obtain ⟨g, off, bo, m, cc, rfl, hg, hcc, hs⟩ := (HL.out.later hT).get hkx
          have HE : Hid ((ls.take (k + 1)).flatten = (ls.take k).flatten ++ ls.getD k []) := HF2.out k hkx
          have HBk : Hid ((ns.flatten ++ (ls.take k).flatten).length + (ls.getD k []).length ≤ 50000) := HB2.out k hkx
          clear HB2 HF2
          generalize ls.getD k [] = xs at *
          go_wp2_with (at_builtin; refine wpList_catS rfl _ _ rfl rfl rfl hS hs (by have := HBk.out; omega) hT.size ?_; intro ao5 n5 cap5 w5 hS5 hT5)
          go_roundw
          case rel => exact ⟨k + 1, by omega, by go_num, by rw [HE.out, ← List.append_assoc]; exact hS5, hT.trans hT5⟩
          case measure => simp [RowKit.intOf]; omega
        · obtain rfl : k = ls.length := by omega
          rw [List.take_length] at hS
          have HS2 : Hid (So wr2 W.heap.size u3 (slotsY ns ls)) := hS
          clear hS HB2 HF2
          go_wp2
          go_ret
          exact ⟨_, rfl, HS2.out.weak hB.size, then_below hB hT⟩

end Go.Proofs.YtldcagjnngkabaaGreatDoor

/-
  The document's Moments, Times, Ends, Last.
-/
namespace Go.Proofs.YtldcagjnngkabaaGreatDoor
open Go Go.RowKit Go.Shelf

attribute [local go_sem] Oper.semAt_some ext_const

theorem lst_one (W : World) (base : Nat) (h : base ≤ W.heap.size) (x : Int) : Lst (W.alloc (.cells #[I x] 3)) base (.slice (some ⟨W.heap.size, 0, none⟩) 1 1) [x] :=
  ⟨rfl, .inr ⟨W.heap.size, 1, #[I x], rfl, h, World.alloc_heap_new W _, Nat.le_refl _, by unfold maxLen; omega, rfl, rfl⟩⟩

theorem gath_take {p : Slt → Bool} {l : List Int} {sl : List Slt} {k : Nat} (h : k < sl.length) : gathT p l (sl.take (k + 1)) = if p (sl.getD k (0, 0, 0)) then insI (sl.getD k (0, 0, 0)).2.1 (gathT p l (sl.take k)) else gathT p l (sl.take k) := by
  rw [take_slot h, gathT_snoc]
theorem gath_short (p : Slt → Bool) (l : List Int) (sl : List Slt) (k : Nat) : (gathT p l (sl.take k)).length ≤ l.length + sl.length := by
  have := gathT_len p (sl.take k) l
  rw [List.length_take] at this
  omega

set_option maxRecDepth 100000 in
set_option maxHeartbeats 4000000 in
theorem rmoments_calls {a b c x : Int} {n l : Value} {ns ls : List (List Slt)} (w : World) (hN : Yl w n ns) (hL : Yl w l ls) (htot : (slotsY ns ls).length ≤ 20000) (h1 : ns.length ≤ 100000) (h2 : ls.length ≤ 100000) :
    Calls Tryz.prog 42 #[Y5 a b c n l, I x] w fun e W' => ∃ v, e = .returned v ∧ Lst W' w.heap.size v (timesT x (slotsY ns ls)) ∧ Below w.heap.size w W' := by
  have hmx : Tryz.prog.follows .mixedOrders = true := by kernel_rfl
  obtain ⟨W, hW, hB, hK, hX⟩ := two_start w (K5 a b c n l) #[I x] 26 3
  have HW : Hid ((w.alloc (.cells (K5 a b c n l) 26)).alloc (.cells #[I x] 3) = W) := hW
  have HA : Hid (Calls Tryz.prog 82 #[Y5 a b c n l] W fun e W' => ∃ v, e = .returned v ∧ So W' W.heap.size v (slotsY ns ls) ∧ Below W.heap.size W W') := rallY_calls W (hN.later hB) (hL.later hB) (by omega) h1 h2
  have HP : Hid (∀ (w1 : World) (u : Value) (k : Nat) (y : Int), Lst w1 w.heap.size u (gathT (timeP x) [x] ((slotsY ns ls).take k)) → w.heap.size ≤ w1.heap.size → Calls Tryz.prog 83 #[u, I y] w1 fun e W' => ∃ v, e = .returned v ∧ Lst W' w.heap.size v (insI y (gathT (timeP x) [x] ((slotsY ns ls).take k))) ∧ Below w1.heap.size w1 W') := fun w1 u k y hu hb => rputI_calls w1 hu hb (gathT_up (by simp [UpI])) (by have := gath_short (timeP x) [x] (slotsY ns ls) k; simp only [List.length_cons, List.length_nil] at this; omega)
  have HG : Hid (∀ k, k < (slotsY ns ls).length → gathT (timeP x) [x] ((slotsY ns ls).take (k + 1)) = if timeP x ((slotsY ns ls).getD k (0, 0, 0)) then insI ((slotsY ns ls).getD k (0, 0, 0)).2.1 (gathT (timeP x) [x] ((slotsY ns ls).take k)) else gathT (timeP x) [x] ((slotsY ns ls).take k)) := fun k h => gath_take h
  have HZ : Hid (timesT x (slotsY ns ls) = gathT (timeP x) [x] ((slotsY ns ls).take (slotsY ns ls).length)) := by show _ = _; rw [List.take_length]; rfl
  have H0 : Hid (gathT (timeP x) [x] ((slotsY ns ls).take 0) = [x]) := rfl
  have hO := lst_one (w.alloc (.cells (K5 a b c n l) 26)) w.heap.size (by simp) x
  rw [hW] at hO
  have HO : Hid (Lst W w.heap.size (.slice (some ⟨w.heap.size + 1, 0, none⟩) 1 1) [x]) := by
    have := hO
    rwa [show (w.alloc (.cells (K5 a b c n l) 26)).heap.size = w.heap.size + 1 by simp] at this
  obtain ⟨an, cn, rfl, _⟩ := hN.form
  obtain ⟨al, cl, rfl, _⟩ := hL.form
  clear hW hN hL h1 h2 hO
  generalize timesT x (slotsY ns ls) = tgt at *
  generalize slotsY ns ls = sl at *
  generalize ns.length = n1 at *
  generalize ls.length = n2 at *
  obtain ⟨p0, p1, p2, p3, p4, hz⟩ := hK.five
  go_enter Tryz.func42, Tryz.ntmps42
  go_wp2_with fail
  rw [HW.out]
  refine HA.out.mono ?_
  rintro e w1 ⟨v, rfl, hS, hT⟩
  obtain ⟨ao, cap, rfl, hS'⟩ := hS.ss.form
  have HS : Hid (Ss w1 (.slice ao sl.length cap) sl) := hS'
  clear hS hS'
  go_wp2
  go_loopw [5, 7] (fun out i wr => ∃ k : Nat, k ≤ sl.length ∧ i = .int .i64 k ∧ Lst wr w.heap.size out (gathT (timeP x) [x] (sl.take k)) ∧ Below w1.heap.size w1 wr) (fun _ i _ => sl.length - (RowKit.intOf i).toNat)
  case atStart => exact ⟨0, by omega, rfl, by rw [H0.out]; exact HO.out.later hT, Below.refl _ _⟩
  case round =>
    obtain ⟨k, hk, rfl, hu, hT1⟩ := hrel
    by_cases hlt : (k : Int) < (sl.length : Int)
    · have hkx : k < sl.length := by omega
      obtain ⟨g, off, f, t, o, rfl, hgd, ha⟩ := HS.out.at hkx
      obtain ⟨hz1, s0, s1, s2⟩ := ha.later hT1
      have hgk := HG.out k hkx
      rw [hgd] at hgk
      have hbase : w.heap.size ≤ wr.heap.size := (then_below hB (then_below hT hT1)).size
      have HPk : Hid (Calls Tryz.prog 83 #[u5, I t] wr fun e W' => ∃ v, e = .returned v ∧ Lst W' w.heap.size v (insI t (gathT (timeP x) [x] (sl.take k))) ∧ Below wr.heap.size wr W') := HP.out wr _ k t hu hbase
      by_cases h1 : x < t
      · by_cases h2 : t < 1099511627776
        · have HE : Hid (gathT (timeP x) [x] (sl.take (k + 1)) = insI t (gathT (timeP x) [x] (sl.take k))) := by show _ = _; rw [hgk]; simp [timeP, h1, h2]
          have d1 : decide (x < t) = true := decide_eq_true h1
          have d2 : decide (t < 1099511627776) = true := decide_eq_true h2
          clear hgk hgd h1 h2 hu
          go_wp2_with fail
          refine HPk.out.mono ?_
          rintro e w2 ⟨v2, rfl, hu2, hB2⟩
          go_wp2
          go_roundw
          case rel => exact ⟨k + 1, by omega, by go_num, by rw [HE.out]; exact hu2, then_below hT1 hB2⟩
          case measure => simp [RowKit.intOf]; omega
        · have HE : Hid (gathT (timeP x) [x] (sl.take (k + 1)) = gathT (timeP x) [x] (sl.take k)) := by show _ = _; rw [hgk]; simp [timeP, h2]
          have d1 : decide (x < t) = true := decide_eq_true h1
          have d2 : decide (t < 1099511627776) = false := decide_eq_false h2
          clear hgk hgd h1 h2
          go_wp2
          go_roundw
          case rel => exact ⟨k + 1, by omega, by go_num, by rw [HE.out]; exact hu, hT1⟩
          case measure => simp [RowKit.intOf]; omega
      · have HE : Hid (gathT (timeP x) [x] (sl.take (k + 1)) = gathT (timeP x) [x] (sl.take k)) := by show _ = _; rw [hgk]; simp [timeP, h1]
        have d1 : decide (x < t) = false := decide_eq_false h1
        clear hgk hgd h1
        go_wp2
        go_roundw
        case rel => exact ⟨k + 1, by omega, by go_num, by rw [HE.out]; exact hu, hT1⟩
        case measure => simp [RowKit.intOf]; omega
    · obtain rfl : k = sl.length := by omega
      have HU : Hid (Lst wr w.heap.size u5 tgt) := by show Lst _ _ _ _; rw [HZ.out]; exact hu
      clear hu
      go_wp2
      go_ret
      exact ⟨_, rfl, HU.out, then_below hB (then_below hT hT1)⟩

end Go.Proofs.YtldcagjnngkabaaGreatDoor
