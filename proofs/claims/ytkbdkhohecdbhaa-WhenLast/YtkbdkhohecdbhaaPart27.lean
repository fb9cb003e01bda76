/-
  The document's put: a rising list with one more, if it is not there.
-/
import Derived.Test.YtkbdkhohecdbhaaPart24
import Derived.Test.YtkbdkhohecdbhaaPart12
import Derived.Test.YtkbdkhohecdbhaaPart6
import Derived.Test.YtkbdkhohecdbhaaPart21
import Derived.Test.YtkbdkhohecdbhaaPart23
import Derived.Test.YtkbdkhohecdbhaaPart17
namespace Go.Proofs.Ytkbdkhohecdbhaa
open Go Go.RowKit Go.Shelf

attribute [local go_sem] Oper.semAt_some ext_const

/-- What was put together of the numbers gone by. -/
def PutSt (n : Int) (pre : List Int) (q : Bool) (out : List Int) : Prop := (q = false ∧ out = pre ∧ ∀ y ∈ pre, y < n) ∨ (q = true ∧ out = insI n pre ∧ ∃ y ∈ pre, n ≤ y)
theorem put_start (n : Int) : PutSt n [] false [] := .inl ⟨rfl, rfl, fun y hy => by cases hy⟩
theorem put_new {n x : Int} {pre out : List Int} (h : PutSt n pre false out) (hx : n < x) : PutSt n (pre ++ [x]) true (out ++ [n] ++ [x]) := by
  rcases h with ⟨_, rfl, h⟩ | ⟨h, _⟩
  · exact .inr ⟨rfl, (insI_new hx h).symm, x, by simp, by omega⟩
  · cases h
theorem put_old {n x : Int} {pre out : List Int} (h : PutSt n pre false out) (hx : x < n) : PutSt n (pre ++ [x]) false (out ++ [x]) := by
  rcases h with ⟨_, rfl, h⟩ | ⟨h, _⟩
  · refine .inl ⟨rfl, rfl, fun y hy => ?_⟩
    rcases List.mem_append.1 hy with hy | hy
    · exact h y hy
    · rw [List.mem_singleton.1 hy]; exact hx
  · cases h
theorem put_done {n x : Int} {pre out : List Int} (h : PutSt n pre true out) : PutSt n (pre ++ [x]) true (out ++ [x]) := by
  rcases h with ⟨h, _⟩ | ⟨_, rfl, y, hy, hn⟩
  · cases h
  · exact .inr ⟨rfl, (insI_more ⟨y, hy, hn⟩).symm, y, List.mem_append_left _ hy, hn⟩
theorem put_end {n : Int} {pre out : List Int} (h : PutSt n pre false out) : out ++ [n] = insI n pre := by
  rcases h with ⟨_, rfl, h⟩ | ⟨h, _⟩
  · exact (insI_end h).symm
  · cases h
theorem put_fin {n : Int} {pre out : List Int} (h : PutSt n pre true out) : out = insI n pre := by
  rcases h with ⟨h, _⟩ | ⟨_, h, _⟩
  · cases h
  · exact h
theorem put_len {n : Int} {pre out : List Int} {q : Bool} (h : PutSt n pre q out) : out.length ≤ pre.length + 1 := by
  rcases h with ⟨_, rfl, _⟩ | ⟨_, rfl, _⟩
  · omega
  · exact insI_len _ _
theorem take_int {xs : List Int} {k : Nat} (hk : k < xs.length) : xs.take (k + 1) = xs.take k ++ [xs.getD k 0] := by
  rw [List.take_succ_eq_append_getElem hk]
  simp [hk]
theorem insI_at {n : Int} {xs : List Int} {k : Nat} (hu : UpI xs) (hk : k < xs.length) (h : xs.getD k 0 = n) : insI n xs = xs := insI_in hu (h ▸ ofList_mem hk)

set_option maxRecDepth 100000 in
set_option maxHeartbeats 4000000 in
theorem rputI_calls {b : Nat} {u : Value} {xs : List Int} {n : Int} (w : World) (hL : Lst w b u xs) (hb : b ≤ w.heap.size) (hu : UpI xs) (hn : xs.length ≤ 50000) :
    Calls Try.prog 36 #[u, I n] w fun e W' => ∃ v, e = .returned v ∧ Lst W' b v (insI n xs) ∧ Below w.heap.size w W' := by
  have hmx : Try.prog.follows .mixedOrders = true := by kernel_rfl
  have HU : Hid (Lst w b u xs) := hL
  obtain ⟨ao, cap, rfl, hA⟩ := hL.view
  have HA : Hid (∀ k : Nat, k < xs.length → ∃ g cur, ao = some ⟨g, 0, none⟩ ∧ Blk w g 3 cur ∧ cur[k]? = some (I (xs.getD k 0))) := hA
  have HI : Hid (∀ k, k < xs.length → xs.getD k 0 = n → insI n xs = xs) := fun k h1 h2 => insI_at hu h1 h2
  have HT : Hid (∀ k, k < xs.length → xs.take (k + 1) = xs.take k ++ [xs.getD k 0]) := fun k h => take_int h
  clear hL hA hu
  go_enter Try.func36, Try.ntmps36
  go_wp2
  go_loopw [5, 6, 7] (fun out dn i wr => ∃ (k : Nat) (q : Bool) (ys : List Int), k ≤ xs.length ∧ i = .int .i64 k ∧ dn = .bool q ∧ Lst wr w.heap.size out ys ∧ Hid (PutSt n (xs.take k) q ys) ∧ Below w.heap.size w wr) (fun _ _ i _ => xs.length - (RowKit.intOf i).toNat)
  case atStart => exact ⟨0, false, [], by omega, rfl, rfl, Lst.nil _ _, put_start n, Below.refl _ _⟩
  case round =>
    obtain ⟨k, q, ys, hk, rfl, rfl, hys, HS, hT⟩ := hrel
    by_cases hlt : (k : Int) < (xs.length : Int)
    · have hkx : k < xs.length := by omega
      obtain ⟨g, cur, rfl, hg, hc⟩ := HA.out k hkx
      have hlen := put_len HS.out
      rw [List.length_take] at hlen
      have HI1 := HI.out k hkx
      have HT1 : Hid (xs.take (k + 1) = xs.take k ++ [xs.getD k 0]) := HT.out k hkx
      have HI1 : Hid (xs.getD k 0 = n → insI n xs = xs) := HI1
      generalize xs.getD k 0 = x at *
      have c0 := (hg.later hT).cell k
      rw [hc] at c0
      have hz := (hg.later hT).lt
      have HG : Hid (∀ wx, Below w.heap.size w wx → wx.cell? ⟨g, k, none⟩ = some (I x) ∧ g < wx.heap.size) := fun wx hb => ⟨((hg.later hb).cell k).trans hc, (hg.later hb).lt⟩
      clear hg hc
      by_cases he : x = n
      · subst he
        have HE : Hid (insI x xs = xs) := HI1.out rfl
        clear HI1
        go_wp2
        go_ret
        exact ⟨_, rfl, HU.out.later hT, hT⟩
      · have hne : (x == n) = false := by simpa using he
        have HNe : Hid (x ≠ n) := he
        clear he HI1 HI
        cases q
        · by_cases hgt : n < x
          · have hd : decide (n < x) = true := decide_eq_true hgt
            have HS2 : Hid (PutSt n (xs.take (k + 1)) true (ys ++ [n] ++ [x])) := by show PutSt _ _ _ _; rw [HT1.out]; exact put_new HS.out hgt
            clear hgt HNe HT1 HS
            have tok : True := trivial
            go_wp2_with (first
              | (at_builtin; have _t := tok; refine wpList_app rfl _ _ rfl rfl rfl hys (by omega) hT.size ?_; intro v5 w5 hL5 hT5; clear tok; have hT6 := hT.trans hT5; obtain ⟨c5, hz5⟩ := HG.out w5 hT6)
              | (at_builtin; refine wpList_app rfl _ _ rfl rfl rfl hL5 (by simp only [List.length_append, List.length_cons, List.length_nil]; omega) hT6.size ?_; intro v7 w7 hL7 hT7))
            go_roundw
            case rel => exact ⟨k + 1, true, _, by omega, by go_num, rfl, hL7, HS2, hT6.trans hT7⟩
            case measure => simp [RowKit.intOf]; omega
          · have hd : decide (n < x) = false := decide_eq_false hgt
            have HS2 : Hid (PutSt n (xs.take (k + 1)) false (ys ++ [x])) := by show PutSt _ _ _ _; rw [HT1.out]; exact put_old HS.out (by have := HNe.out; omega)
            clear hgt HNe HT1 HS
            go_wp2_with (at_builtin; refine wpList_app rfl _ _ rfl rfl rfl hys (by omega) hT.size ?_; intro v7 w7 hL7 hT7)
            go_roundw
            case rel => exact ⟨k + 1, false, _, by omega, by go_num, rfl, hL7, HS2, hT.trans hT7⟩
            case measure => simp [RowKit.intOf]; omega
        · have HS2 : Hid (PutSt n (xs.take (k + 1)) true (ys ++ [x])) := by show PutSt _ _ _ _; rw [HT1.out]; exact put_done HS.out
          clear HNe HT1 HS
          go_wp2_with (at_builtin; refine wpList_app rfl _ _ rfl rfl rfl hys (by omega) hT.size ?_; intro v7 w7 hL7 hT7)
          go_roundw
          case rel => exact ⟨k + 1, true, _, by omega, by go_num, rfl, hL7, HS2, hT.trans hT7⟩
          case measure => simp [RowKit.intOf]; omega
    · obtain rfl : k = xs.length := by omega
      have hlen := put_len HS.out
      rw [List.take_length] at hlen HS
      cases q
      · have HE := put_end HS.out
        have HE : Hid (ys ++ [n] = insI n xs) := HE
        clear HS
        go_wp2_with (at_builtin; refine wpList_app rfl _ _ rfl rfl rfl hys (by omega) hT.size ?_; intro v7 w7 hL7 hT7)
        go_ret
        refine ⟨_, rfl, ?_, hT.trans hT7⟩
        rw [← HE.out]
        exact hL7.weak hb
      · have HE : Hid (ys = insI n xs) := put_fin HS.out
        clear HS
        go_wp2
        go_ret
        refine ⟨_, rfl, ?_, hT⟩
        rw [← HE.out]
        exact hys.weak hb

end Go.Proofs.Ytkbdkhohecdbhaa

/-
  The document's all: the slots of all calendars, one behind the other, in new memory.
-/
namespace Go.Proofs.Ytkbdkhohecdbhaa
open Go Go.RowKit Go.Shelf

attribute [local go_sem] Oper.semAt_some ext_const

set_option maxRecDepth 100000 in
set_option maxHeartbeats 4000000 in
theorem rall_calls {a b c : Int} {n l : Value} {ns ls : List (List Slt)} (w : World) (hN : Yl w n ns) (hL : Yl w l ls) (htot : (slotsY ns ls).length ≤ 50000) (h1 : ns.length ≤ 100000) (h2 : ls.length ≤ 100000) :
    Calls Try.prog 35 #[Y5 a b c n l] w fun e W' => ∃ v, e = .returned v ∧ So W' w.heap.size v (slotsY ns ls) ∧ Below w.heap.size w W' := by
  have hmx : Try.prog.follows .mixedOrders = true := by kernel_rfl
  obtain ⟨W, hW, hB, hK⟩ := one_start w (K5 a b c n l) 26
  have HW : Hid (w.alloc (.cells (K5 a b c n l) 26) = W) := hW
  have HN : Hid (Yl W n ns) := hN.later hB
  have HL : Hid (Yl W l ls) := hL.later hB
  have hfl : (slotsY ns ls).length = ns.flatten.length + ls.flatten.length := by rw [slotsY, List.length_append]
  have HF1 : Hid (∀ k, k < ns.length → (ns.take (k + 1)).flatten = (ns.take k).flatten ++ ns.getD k []) := fun k h => flat_succ h
  have HF2 : Hid (∀ k, k < ls.length → (ls.take (k + 1)).flatten = (ls.take k).flatten ++ ls.getD k []) := fun k h => flat_succ h
  have HB1 : Hid (∀ k, k < ns.length → (ns.take k).flatten.length + (ns.getD k []).length ≤ 50000) := fun k h => by
    have := flat_le h (Nat.le_refl _)
    rw [List.length_append, List.take_length] at this
    omega
  have HB2 : Hid (∀ k, k < ls.length → (ns.flatten ++ (ls.take k).flatten).length + (ls.getD k []).length ≤ 50000) := fun k h => by
    have := flat_le h (Nat.le_refl _)
    rw [List.length_append, List.take_length] at this
    rw [List.length_append]
    omega
  have HZ : Hid (slotsY ns ls = ns.flatten ++ ls.flatten) := rfl
  obtain ⟨an, cn, rfl, _⟩ := hN.form
  obtain ⟨al, cl, rfl, _⟩ := hL.form
  clear hW hN hL htot hfl
  obtain ⟨p0, p1, p2, p3, p4, hz⟩ := hK.five
  go_enter Try.func35, Try.ntmps35
  go_wp2
  rw [HW.out]
  go_loopw [3, 4] (fun out i wr => ∃ k : Nat, k ≤ ns.length ∧ i = .int .i64 k ∧ So wr W.heap.size out (ns.take k).flatten ∧ Below W.heap.size W wr) (fun _ i _ => ns.length - (RowKit.intOf i).toNat)
  case atStart => exact ⟨0, by omega, rfl, So.nil _ _, Below.refl _ _⟩
  case round =>
    obtain ⟨k, hk, rfl, hS, hT⟩ := hrel
    clear p0 p1 p2 p3 p4 hz
    obtain ⟨p0, p1, p2, p3, p4, hz⟩ := hK.yard hT
    by_cases hlt : (k : Int) < (ns.length : Int)
    · have hkx : k < ns.length := by omega
      obtain ⟨g, off, bo, m, cc, rfl, hg, hcc, hs⟩ := (HN.out.later hT).get hkx
      have HE : Hid ((ns.take (k + 1)).flatten = (ns.take k).flatten ++ ns.getD k []) := HF1.out k hkx
      have HBk : Hid ((ns.take k).flatten.length + (ns.getD k []).length ≤ 50000) := HB1.out k hkx
      clear HB1 HF1
      generalize ns.getD k [] = xs at *
      go_wp2_with (at_builtin; refine wpList_catS rfl _ _ rfl rfl rfl hS hs (by have := HBk.out; omega) hT.size ?_; intro ao5 n5 cap5 w5 hS5 hT5)
      go_roundw
      case rel => exact ⟨k + 1, by omega, by go_num, by rw [HE.out]; exact hS5, hT.trans hT5⟩
      case measure => simp [RowKit.intOf]; omega
    · obtain rfl : k = ns.length := by omega
      have HS1 : Hid (So wr W.heap.size u3 ns.flatten) := by
        have := hS
        rw [List.take_length] at this
        exact this
      have hT1 := hT
      clear hS hT HB1 HF1
      go_wp2
      go_loopw [3, 5] (fun out i wr2 => ∃ k : Nat, k ≤ ls.length ∧ i = .int .i64 k ∧ So wr2 W.heap.size out (ns.flatten ++ (ls.take k).flatten) ∧ Below W.heap.size W wr2) (fun _ i _ => ls.length - (RowKit.intOf i).toNat)
      case atStart => exact ⟨0, by omega, rfl, by simpa using HS1.out, hT1⟩
      case round =>
        rename World => wr2
        obtain ⟨k, hk, rfl, hS, hT⟩ := hrel
        clear p0 p1 p2 p3 p4 hz
        obtain ⟨p0, p1, p2, p3, p4, hz⟩ := hK.yard hT
        by_cases hlt : (k : Int) < (ls.length : Int)
        · have hkx : k < ls.length := by omega
          obtain ⟨g, off, bo, m, cc, rfl, hg, hcc, hs⟩ := (HL.out.later hT).get hkx
          have HE : Hid ((ls.take (k + 1)).flatten = (ls.take k).flatten ++ ls.getD k []) := HF2.out k hkx
          have HBk : Hid ((ns.flatten ++ (ls.take k).flatten).length + (ls.getD k []).length ≤ 50000) := HB2.out k hkx
          clear HB2 HF2
          generalize ls.getD k [] = xs at *
          go_wp2_with (at_builtin; refine wpList_catS rfl _ _ rfl rfl rfl hS hs (by have := HBk.out; omega) hT.size ?_; intro ao5 n5 cap5 w5 hS5 hT5)
          go_roundw
          case rel => exact ⟨k + 1, by omega, by go_num, by rw [HE.out, ← List.append_assoc]; exact hS5, hT.trans hT5⟩
          case measure => simp [RowKit.intOf]; omega
        · obtain rfl : k = ls.length := by omega
          rw [List.take_length] at hS
          have HS2 : Hid (So wr2 W.heap.size u3 (slotsY ns ls)) := hS
          clear hS HB2 HF2
          go_wp2
          go_ret
          exact ⟨_, rfl, HS2.out.weak hB.size, then_below hB hT⟩

end Go.Proofs.Ytkbdkhohecdbhaa

/-
  The document's May, Check, Same of a machine's calendars (tidehallref09).
-/
namespace Go.Proofs.Ytkbdkhohecdbhaa
open Go Go.RowKit Go.Shelf

attribute [local go_sem] Oper.semAt_some ext_const

set_option maxRecDepth 100000 in
set_option maxHeartbeats 4000000 in
theorem rmays_calls {cs : List (List Slt)} {v : Value} (w : World) (hS : Yl w v cs) (hn : cs.length ≤ 100000) (hx : ∀ k, (cs.getD k []).length ≤ 10000) :
    Calls Try.prog 60 #[v] w fun e W' => e = .returned (.bool (maysC cs)) ∧ Below w.heap.size w W' := by
  obtain ⟨ao, cap, rfl, hS⟩ := hS.form
  have HS : Hid (Yl w (.slice ao cs.length cap) cs) := hS
  have HX : Hid (∀ k, (cs.getD k []).length ≤ 10000) := hx
  have H1 : Hid (∀ k : Nat, k < cs.length → mayCB (cs.getD k []) = false → maysC cs = false) := fun k hk h => firstBad ⟨k, hk, h⟩
  have H2 : Hid ((∀ j, j < cs.length → mayCB (cs.getD j []) = true) → maysC cs = true) := noneBad
  generalize maysC cs = ans at H1 H2 ⊢
  clear hS hx
  go_enter Try.func60, Try.ntmps60
  go_wp2
  go_loopw [3] (fun i wr => ∃ k : Nat, k ≤ cs.length ∧ i = .int .i64 k ∧ Hid (∀ j, j < k → mayCB (cs.getD j []) = true) ∧ Below w.heap.size w wr) (fun i _ => cs.length - (RowKit.intOf i).toNat)
  case atStart => exact ⟨0, by omega, rfl, fun j hj => by omega, Below.refl _ _⟩
  case round =>
    obtain ⟨k, hk, rfl, H0, hT⟩ := hrel
    by_cases hlt : (k : Int) < (cs.length : Int)
    · have hk' : k < cs.length := by omega
      obtain ⟨g, off, bo, m, c, rfl, hg, hc, hs⟩ := (HS.out.later hT).get hk'
      have HC : Hid (∀ r, mayCB (cs.getD k []) = r → Calls Try.prog 81 #[.slice bo m c] wr fun e W' => e = .returned (.bool r) ∧ Below wr.heap.size wr W') := fun r hr => by
        have := rmayC_calls wr hs (by have := HX.out k; omega)
        rwa [hr] at this
      clear hs
      cases hm : mayCB (cs.getD k [])
      · have E : ans = false := H1.out k hk' hm
        subst E
        have HC1 : Hid (Calls Try.prog 81 #[.slice bo m c] wr fun e W' => e = .returned (.bool false) ∧ Below wr.heap.size wr W') := HC.out _ hm
        clear hm HC
        go_wp2_with fail
        refine HC1.out.mono ?_
        rintro e w1 ⟨rfl, hB1⟩
        go_wp2
        go_ret
        exact ⟨rfl, then_below hT hB1⟩
      · have HJ : Hid (∀ j, j < k + 1 → mayCB (cs.getD j []) = true) := fun j hj => by
          rcases Nat.lt_succ_iff_lt_or_eq.1 hj with h | rfl
          · exact H0.out j h
          · exact hm
        have HC1 : Hid (Calls Try.prog 81 #[.slice bo m c] wr fun e W' => e = .returned (.bool true) ∧ Below wr.heap.size wr W') := HC.out _ hm
        clear hm HC
        go_wp2_with fail
        refine HC1.out.mono ?_
        rintro e w1 ⟨rfl, hB1⟩
        go_wp2
        go_roundw
        case rel => exact ⟨k + 1, by omega, by go_num, HJ, then_below hT hB1⟩
        case measure => simp [RowKit.intOf]; omega
    · have E : ans = true := H2.out fun j hj => H0.out j (by omega)
      subst E
      go_wp2
      go_ret
      exact ⟨rfl, hT⟩

set_option maxRecDepth 100000 in
set_option maxHeartbeats 8000000 in
theorem rmayY_calls {a b c : Int} {n l : Value} {ns ls : List (List Slt)} (w : World) (hN : Yl w n ns) (hL : Yl w l ls) (hs : Small ns ls) :
    Calls Try.prog 33 #[Y5 a b c n l] w fun e W' => e = .returned (.bool (mayYB a b c ns ls)) ∧ Below w.heap.size w W' := by
  obtain ⟨W, hW, hB, hK⟩ := one_start w (K5 a b c n l) 26
  have HW : Hid (w.alloc (.cells (K5 a b c n l) 26) = W) := hW
  have h200 := hs.nodes
  have h600 := hs.links
  have HN : Hid (∀ w1, Below W.heap.size W w1 → Calls Try.prog 60 #[n] w1 fun e W' => e = .returned (.bool (maysC ns)) ∧ Below w1.heap.size w1 W') := fun w1 hb => rmays_calls w1 (hN.later (then_below hB hb)) (by omega) hs.node
  have HL : Hid (∀ w1, Below W.heap.size W w1 → Calls Try.prog 60 #[l] w1 fun e W' => e = .returned (.bool (maysC ls)) ∧ Below w1.heap.size w1 W') := fun w1 hb => rmays_calls w1 (hL.later (then_below hB hb)) (by omega) hs.link
  obtain ⟨an, cn, rfl, _⟩ := hN.form
  obtain ⟨al, cl, rfl, _⟩ := hL.form
  unfold mayYB
  clear hW hN hL hs
  generalize maysC ns = q1 at *
  generalize maysC ls = q2 at *
  by_cases hd : mayD a b c
  · rw [mayDB_iff.2 hd, Bool.true_and]
    have HM : Hid (∀ w, Calls Try.prog 58 #[A3 a b c] w fun e W' => e = .returned (.bool true) ∧ Below w.heap.size w W') := fun w => rmay_yes w hd
    have HR : Hid (∀ w, Calls Try.prog 59 #[A3 a b c] w fun e W' => e = .returned (I (a * b * c)) ∧ Below w.heap.size w W') := fun w => rn_calls w hd
    have hbd := N_bd hd
    have hmul : wrap64 (3 * (a * b * c)) = 3 * (a * b * c) := wrap_in _ (by omega)
    generalize a * b * c = N at *
    generalize ns.length = nn at *
    generalize ls.length = ll at *
    clear hd
    by_cases h1 : (nn : Int) = N
    · rw [decide_eq_true h1, Bool.true_and]
      have h1b : ((nn : Int) == N) = true := by simpa using h1
      clear h1
      by_cases h2 : (ll : Int) = 3 * N
      · rw [decide_eq_true h2, Bool.true_and]
        have h2b : ((ll : Int) == 3 * N) = true := by simpa using h2
        clear h2
        cases q1
        · rw [Bool.false_and]
          go_enter Try.func33, Try.ntmps33
          go_wp2_with fail
          rw [HW.out]
          refine (HM.out _).mono ?_
          rintro e w1 ⟨rfl, hT⟩
          obtain ⟨p0, p1, p2, p3, p4, hz⟩ := hK.yard hT
          go_wp2_with fail
          refine (HR.out _).mono ?_
          rintro e w2 ⟨rfl, hB2⟩
          have hT2 := then_below hT hB2
          clear p0 p1 p2 p3 p4 hz
          obtain ⟨p0, p1, p2, p3, p4, hz⟩ := hK.yard hT2
          go_wp2_with fail
          refine (HN.out _ hT2).mono ?_
          rintro e w3 ⟨rfl, hB3⟩
          go_wp2
          go_ret
          exact ⟨rfl, then_below hB (then_below hT2 hB3)⟩
        · rw [Bool.true_and]
          go_enter Try.func33, Try.ntmps33
          go_wp2_with fail
          rw [HW.out]
          refine (HM.out _).mono ?_
          rintro e w1 ⟨rfl, hT⟩
          obtain ⟨p0, p1, p2, p3, p4, hz⟩ := hK.yard hT
          go_wp2_with fail
          refine (HR.out _).mono ?_
          rintro e w2 ⟨rfl, hB2⟩
          have hT2 := then_below hT hB2
          clear p0 p1 p2 p3 p4 hz
          obtain ⟨p0, p1, p2, p3, p4, hz⟩ := hK.yard hT2
          go_wp2_with fail
          refine (HN.out _ hT2).mono ?_
          rintro e w3 ⟨rfl, hB3⟩
          have hT3 := then_below hT2 hB3
          clear p0 p1 p2 p3 p4 hz
          obtain ⟨p0, p1, p2, p3, p4, hz⟩ := hK.yard hT3
          go_wp2_with fail
          refine (HL.out _ hT3).mono ?_
          rintro e w4 ⟨rfl, hB4⟩
          go_wp2
          go_ret
          exact ⟨rfl, then_below hB (then_below hT3 hB4)⟩
      · rw [decide_eq_false h2, Bool.false_and]
        have h2b : ((ll : Int) == 3 * N) = false := by simpa using h2
        clear h2 HN HL
        go_enter Try.func33, Try.ntmps33
        go_wp2_with fail
        rw [HW.out]
        refine (HM.out _).mono ?_
        rintro e w1 ⟨rfl, hT⟩
        obtain ⟨p0, p1, p2, p3, p4, hz⟩ := hK.yard hT
        go_wp2_with fail
        refine (HR.out _).mono ?_
        rintro e w2 ⟨rfl, hB2⟩
        have hT2 := then_below hT hB2
        clear p0 p1 p2 p3 p4 hz
        obtain ⟨p0, p1, p2, p3, p4, hz⟩ := hK.yard hT2
        go_wp2_with fail
        go_ret
        exact ⟨rfl, then_below hB hT2⟩
    · rw [decide_eq_false h1, Bool.false_and]
      have h1b : ((nn : Int) == N) = false := by simpa using h1
      clear h1 HN HL
      go_enter Try.func33, Try.ntmps33
      go_wp2_with fail
      rw [HW.out]
      refine (HM.out _).mono ?_
      rintro e w1 ⟨rfl, hT⟩
      obtain ⟨p0, p1, p2, p3, p4, hz⟩ := hK.yard hT
      go_wp2_with fail
      refine (HR.out _).mono ?_
      rintro e w2 ⟨rfl, hB2⟩
      have hT2 := then_below hT hB2
      clear p0 p1 p2 p3 p4 hz
      obtain ⟨p0, p1, p2, p3, p4, hz⟩ := hK.yard hT2
      go_wp2_with fail
      go_ret
      exact ⟨rfl, then_below hB hT2⟩
  · rw [show mayDB a b c = false by cases e : mayDB a b c; rfl; exact absurd (mayDB_iff.1 e) hd, Bool.false_and]
    have HM : Hid (∀ w, Calls Try.prog 58 #[A3 a b c] w fun e W' => e = .returned (.bool false) ∧ Below w.heap.size w W') := fun w => rmay_no w hd
    clear hd HN HL
    go_enter Try.func33, Try.ntmps33
    go_wp2_with fail
    rw [HW.out]
    refine (HM.out _).mono ?_
    rintro e w1 ⟨rfl, hT⟩
    go_wp2
    go_ret
    exact ⟨rfl, then_below hB hT⟩

set_option maxRecDepth 100000 in
set_option maxHeartbeats 8000000 in
theorem rlists_calls {cs ds : List (List Slt)} {u v : Value} (w : World) (hu : Yl w u cs) (hv : Yl w v ds) (hn : cs.length ≤ 100000) (hx : ∀ k, (cs.getD k []).length ≤ 100000) :
    Calls Try.prog 37 #[u, v] w fun e W' => e = .returned (.bool (eqL2 cs ds)) ∧ Below w.heap.size w W' := by
  have hmx : Try.prog.follows .mixedOrders = true := by kernel_rfl
  obtain ⟨ao, cap, rfl, hu⟩ := hu.form
  obtain ⟨ao', cap', rfl, hv⟩ := hv.form
  have HA : Hid (Yl w (.slice ao cs.length cap) cs) := hu
  have HB : Hid (Yl w (.slice ao' ds.length cap') ds) := hv
  have HX : Hid (∀ k, (cs.getD k []).length ≤ 100000) := hx
  clear hu hv hx
  obtain ⟨ans, hans⟩ : ∃ ans, ans = eqL2 cs ds := ⟨_, rfl⟩
  rw [← hans]
  have HS : Hid (ans = eqL2 cs ds) := hans
  clear hans
  by_cases hl : (cs.length : Int) = ds.length
  · have hl' : ds.length = cs.length := by omega
    clear hl
    have HL : Hid (ds.length = cs.length) := hl'
    rw [hl'] at HB ⊢
    clear hl'
    go_enter Try.func37, Try.ntmps37
    go_wp2
    go_loopw [5] (fun i wr => ∃ k : Nat, k ≤ cs.length ∧ i = .int .i64 k ∧ Hid (cs.take k = ds.take k) ∧ Below w.heap.size w wr) (fun i _ => cs.length - (RowKit.intOf i).toNat)
    case atStart => exact ⟨0, by omega, rfl, by show _ = _; simp, Below.refl _ _⟩
    case round =>
      obtain ⟨k, hk, rfl, HT, hT⟩ := hrel
      by_cases hlt : (k : Int) < (cs.length : Int)
      · have hkx : k < cs.length := by omega
        have hky : k < ds.length := by have := HL.out; omega
        obtain ⟨g, off, bo, m, c, rfl, hg, hc, hs⟩ := (HA.out.later hT).get hkx
        obtain ⟨g', off', bo', m', c', rfl, hg', hc', hs'⟩ := (HB.out.later hT).get hky
        have HE : Hid (eqC (cs.getD k []) (ds.getD k []) = true → cs.take (k + 1) = ds.take (k + 1)) := fun h => take_succL hkx hky HT.out (of_decide_eq_true h)
        have HD : Hid (eqC (cs.getD k []) (ds.getD k []) = false → ans = false) := fun h => by
          rw [HS.out]
          refine decide_eq_false fun he => ?_
          rw [he] at h
          exact absurd rfl (of_decide_eq_false h)
        have HC : Hid (∀ r, eqC (cs.getD k []) (ds.getD k []) = r → ∀ x : Ext wr, Calls Try.prog 61 #[.slice bo m c, .slice bo' m' c'] x.wd fun e W' => e = .returned (.bool r) ∧ Below x.wd.heap.size x.wd W') := fun r hr x => by
          have := rsameC_calls x.wd (hs.later x.le) (hs'.later x.le) (HX.out k)
          rwa [hr] at this
        have y0 : ∀ x : Ext wr, x.wd.cell? ⟨g, off + k, none⟩ = some (.slice bo m c) := fun x => (x.le.cell (p := ⟨g, off + k, none⟩) hg).trans hc
        have y1 : ∀ x : Ext wr, x.wd.cell? ⟨g', off' + k, none⟩ = some (.slice bo' m' c') := fun x => (x.le.cell (p := ⟨g', off' + k, none⟩) hg').trans hc'
        clear hs hs'
        cases hq : eqC (cs.getD k []) (ds.getD k [])
        · have hans := HD.out hq
          subst hans
          have HC1 : Hid (∀ x : Ext wr, Calls Try.prog 61 #[.slice bo m c, .slice bo' m' c'] x.wd fun e W' => e = .returned (.bool false) ∧ Below x.wd.heap.size x.wd W') := HC.out _ hq
          clear hq HC HE HD
          go_wp2_with fail
          refine wp_region_look hmx (by kernel_rfl) ?_
          repeat (go_big_quiet_step ((go_at_call 61; exact calls_ext (HC1.out _))))
          refine wpQuiet_nil ?_
          intro X
          have hT := then_below hT X.le
          go_wp2
          go_ret
          exact ⟨rfl, hT⟩
        · have HN : Hid (cs.take (k + 1) = ds.take (k + 1)) := HE.out hq
          have HC1 : Hid (∀ x : Ext wr, Calls Try.prog 61 #[.slice bo m c, .slice bo' m' c'] x.wd fun e W' => e = .returned (.bool true) ∧ Below x.wd.heap.size x.wd W') := HC.out _ hq
          clear hq HC HE HD
          go_wp2_with fail
          refine wp_region_look hmx (by kernel_rfl) ?_
          repeat (go_big_quiet_step ((go_at_call 61; exact calls_ext (HC1.out _))))
          refine wpQuiet_nil ?_
          intro X
          have hT := then_below hT X.le
          go_wp2
          go_roundw
          case rel => exact ⟨k + 1, by omega, by go_num, HN, hT⟩
          case measure => simp [RowKit.intOf]; omega
      · have E : ans = true := by
          rw [HS.out]
          refine decide_eq_true ?_
          have h1 := HT.out
          rwa [List.take_of_length_le (by omega), List.take_of_length_le (by have := HL.out; omega)] at h1
        subst E
        go_wp2
        go_ret
        exact ⟨rfl, hT⟩
  · have E : ans = false := by rw [HS.out]; refine decide_eq_false fun he => ?_; rw [he] at hl; exact hl rfl
    subst E
    go_enter Try.func37, Try.ntmps37
    go_wp2
    go_ret
    exact ⟨rfl, Below.refl _ _⟩

attribute [local go_sem high] eqD_arrD

set_option maxRecDepth 100000 in
set_option maxHeartbeats 8000000 in
theorem rSameY_calls {a b c a' b' c' : Int} {n l n' l' : Value} {ns ls ns' ls' : List (List Slt)} (w : World) (hN : Yl w n ns) (hL : Yl w l ls) (hN' : Yl w n' ns') (hL' : Yl w l' ls') (h1 : ns.length ≤ 100000) (h2 : ls.length ≤ 100000) (hx1 : ∀ k, (ns.getD k []).length ≤ 100000) (hx2 : ∀ k, (ls.getD k []).length ≤ 100000) :
    Calls Try.prog 18 #[Y5 a b c n l, Y5 a' b' c' n' l'] w fun e W' => e = .returned (.bool (eqY a b c ns ls a' b' c' ns' ls')) ∧ Below w.heap.size w W' := by
  obtain ⟨W, hW, hB, hK, hK2⟩ := two_start w (K5 a b c n l) (K5 a' b' c' n' l') 26 26
  have HW : Hid ((w.alloc (.cells (K5 a b c n l) 26)).alloc (.cells (K5 a' b' c' n' l') 26) = W) := hW
  have H1 : Hid (Calls Try.prog 37 #[n, n'] W fun e W' => e = .returned (.bool (eqL2 ns ns')) ∧ Below W.heap.size W W') := rlists_calls W (hN.later hB) (hN'.later hB) h1 hx1
  have H2 : Hid (∀ w1, Below W.heap.size W w1 → Calls Try.prog 37 #[l, l'] w1 fun e W' => e = .returned (.bool (eqL2 ls ls')) ∧ Below w1.heap.size w1 W') := fun w1 hb => rlists_calls w1 (hL.later (then_below hB hb)) (hL'.later (then_below hB hb)) h2 hx2
  unfold eqY
  clear hW hN hL hN' hL' h1 h2 hx1 hx2
  generalize eqL2 ns ns' = q1 at *
  generalize eqL2 ls ls' = q2 at *
  cases hd : eqD a b c a' b' c'
  · clear H1 H2
    rw [Bool.false_and]
    go_enter Try.func18, Try.ntmps18
    go_wp2
    rw [HW.out]
    go_ret
    exact ⟨rfl, hB⟩
  · cases q1
    · clear H2
      go_enter Try.func18, Try.ntmps18
      go_wp2_with fail
      rw [HW.out]
      refine H1.out.mono ?_
      rintro e w1 ⟨rfl, hT⟩
      go_wp2
      go_ret
      exact ⟨rfl, then_below hB hT⟩
    · go_enter Try.func18, Try.ntmps18
      go_wp2_with fail
      rw [HW.out]
      refine H1.out.mono ?_
      rintro e w1 ⟨rfl, hT⟩
      obtain ⟨p0, p1, p2, p3, p4, hz⟩ := hK.yard hT
      obtain ⟨q0, q1, q2', q3, q4, hz'⟩ := hK2.yard hT
      go_wp2_with fail
      refine (H2.out _ hT).mono ?_
      rintro e w2 ⟨rfl, hB2⟩
      go_wp2
      go_ret
      exact ⟨rfl, then_below hB (then_below hT hB2)⟩

end Go.Proofs.Ytkbdkhohecdbhaa
