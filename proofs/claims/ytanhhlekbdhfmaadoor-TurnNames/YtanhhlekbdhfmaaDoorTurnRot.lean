/-
  turn.rotations: each that comes of what is asked for by one of the six orders, each once, by a map.
-/
import Derived.Test.YtanhhlekbdhfmaaDoorTurnGather
namespace Go.Proofs.YtanhhlekbdhfmaaDoor
open Go Go.RowKit Go.Shelf Go.Maps

attribute [local go_sem] Oper.semAt_some ext_const eq_ints_at eq_bools_at eq_wants

/-- What holds at each round's head. -/
structure Rd (w : World) (M : Nat) (u : Wt) (cs : Array Value) (k : Nat) (v : Value) (wr : World) : Prop where
  map : ∃ D, wr.ownsMap Tryd.prog 29 (plainElem (H := Unit) Tryd.prog 3) M k D ∧ Keys D (accT u k)
  list : Wl wr (w.heap.size + 1) v (accT u k)
  apart : v.ownBlock ≠ some M
  src : Blk wr w.heap.size 29 cs
  below : Below w.heap.size w wr
  low : w.heap.size < M
  size : M < wr.heap.size

theorem Rd.upto {w : World} {M : Nat} {u : Wt} {cs : Array Value} {k : Nat} {v : Value} {wr w1 : World} {o1 : Obj} (R : Rd w M u cs k v wr) (hB : Below (wr.alloc o1).heap.size (wr.alloc o1) w1) (o2 : Obj) : Rd w M u cs k v (w1.alloc o2) := by
  obtain ⟨D, hD, hK⟩ := R.map
  have hs := R.size
  have h1 : (wr.alloc o1).heap.size = wr.heap.size + 1 := by simp
  have h2 := hB.size
  refine ⟨⟨D, (owns_later (hD.alloc o1) hB (by omega)).alloc o2, hK⟩, (Wl.later (R.list.alloc o1) hB).alloc o2, R.apart, ((R.src.alloc o1).later hB).alloc o2, then_alloc (then_below (then_alloc R.below o1) hB) o2, R.low, ?_⟩
  simp; omega
theorem Rd.stay {w : World} {M : Nat} {u : Wt} {cs : Array Value} {k : Nat} {v : Value} {wr : World} (R : Rd w M u cs k v wr) (h : byOrd u k ∈ accT u k) : Rd w M u cs (k + 1) v wr := by
  obtain ⟨D, hD, hK⟩ := R.map
  exact ⟨⟨D, hD.mono (Nat.le_succ _), by rw [accT_old h]; exact hK⟩, by rw [accT_old h]; exact R.list, R.apart, R.src, R.below, R.low, R.size⟩
theorem Rd.next {w : World} {M : Nat} {u : Wt} {cs : Array Value} {k : Nat} {v v4 : Value} {wr w3 w4 : World} {D d : DataW Unit} (R : Rd w M u cs k v wr) (h : byOrd u k ∉ accT u k) (hm : mayT (byOrd u k)) (hK : Keys D (accT u k)) (hD : IsMap D)
    (hO : w3.ownsMap Tryd.prog 29 (plainElem (H := Unit) Tryd.prog 3) M (k + 1) (D.put (keyW (byOrd u k)) d)) (hG : wr.grownBy w3 (some M))
    (hW : Wl w4 (w.heap.size + 1) v4 (accT u k ++ [byOrd u k])) (hG4 : w3.grownBy w4 v.ownBlock) (hloc : v4.ownBlock = v.ownBlock ∨ ∃ g, v4.ownBlock = some g ∧ w3.heap.size < g) : Rd w M u cs (k + 1) v4 w4 := by
  have hs := R.size
  have hlo := R.low
  have hsz := R.below.size
  have h3 := hG.size
  have h4 := hG4.size
  have hv : ∀ g, v.ownBlock = some g → w.heap.size + 1 ≤ g := fun g hg => (World.ownsRow.lt R.list g hg).1
  have hB3 : Below w.heap.size w w3 := R.below.grown hG (by omega) (fun j hj => by cases hj; omega)
  refine ⟨⟨_, hO.kept hG4 (fun e => R.apart e.symm), by rw [accT_new h]; exact keys_put hK hD hm⟩, by rw [accT_new h]; exact hW, ?_, ?_, hB3.grown hG4 (by omega) (fun j hj => by have := hv j hj; omega), hlo, by omega⟩
  · rcases hloc with e | ⟨g, e, hg⟩
    · rw [e]; exact R.apart
    · rw [e]; simp; omega
  · have e1 := hG.block w.heap.size (by omega) (by simp; omega)
    have e2 := hG4.block w.heap.size (by omega) (fun e => by have := hv _ e.symm; omega)
    exact e2.trans (e1.trans R.src)

theorem Rd.list3 {w : World} {M : Nat} {u : Wt} {cs : Array Value} {k : Nat} {v : Value} {wr w3 : World} (R : Rd w M u cs k v wr) (hG : wr.grownBy w3 (some M)) : Wl w3 (w.heap.size + 1) v (accT u k) :=
  World.ownsRow.kept R.list hG (Or.inr R.apart)
theorem Rd.size3 {w : World} {M : Nat} {u : Wt} {cs : Array Value} {k : Nat} {v : Value} {wr w3 : World} (R : Rd w M u cs k v wr) (hG : wr.grownBy w3 (some M)) : w.heap.size + 1 ≤ w3.heap.size := by
  have h1 := hG.size
  have h2 := R.size
  have h3 := R.low
  omega
theorem turned_kept {wr w1 w3 : World} {o1 : Obj} {M : Nat} {t : TypeId} {u : Array Value} (hM : M < wr.heap.size) (hB : Below (wr.alloc o1).heap.size (wr.alloc o1) w1) (hG : (w1.alloc (.cells u t)).grownBy w3 (some M)) : Blk w3 w1.heap.size t u := by
  have h1 : (wr.alloc o1).heap.size = wr.heap.size + 1 := by simp
  have h2 := hB.size
  exact (hG.block w1.heap.size (by simp) (by simp; omega)).trans (Blk.new w1 t u)

set_option maxRecDepth 100000 in
set_option maxHeartbeats 4000000 in
theorem rot_six {x y z : Int} {p q r : Bool} (w : World) (hO : OrdOk w) (hm : mayT (x, y, z, p, q, r, true)) :
    Calls Tryd.prog 19 #[V7 x y z p q r true] w fun e W' => ∃ v, e = .returned v ∧ Wl W' w.heap.size v (accT (x, y, z, p, q, r, true) 6) ∧ Below w.heap.size w W' := by
  have HO : Hid (OrdOk w) := hO
  have HM : Hid (mayT (x, y, z, p, q, r, true)) := hm
  have hmm := @run_makeMap Tryd.prog
  obtain ⟨uu, huu⟩ : ∃ uu : Wt, uu = (x, y, z, p, q, r, true) := ⟨_, rfl⟩
  have HU : Hid (uu = (x, y, z, p, q, r, true)) := huu
  rw [← huu]
  clear huu hO hm
  go_enter Tryd.func19, Tryd.ntmps19
  go_wp2_with (first
    | (at_make; refine wpList_mkWl (base := w.heap.size + 1) rfl _ _ rfl 6 rfl rfl (by omega) (by omega) (by simp) ?_; intro v0 w0 hL0 hB0 hv0
       have HB0 : Hid (Below w.heap.size w w0) := ((Below.refl _ w).alloc (Nat.le_refl _) _).trans (hB0.mono (by omega))
       have HS : Hid (Blk w0 w.heap.size 29 (cells7 x y z p q r true)) := (Blk.new w 29 (cells7 x y z p q r true)).below hB0 (by omega)
       have HZ : Hid (w.heap.size + 1 < w0.heap.size) := by
         show _ < _
         have := (World.ownsRow.lt hL0 _ hv0).2
         simpa using this
       have HV : Hid (v0.ownBlock = some (w.heap.size + 1)) := by show _ = _; rw [hv0]; simp
       have HL : Hid (Wl w0 (w.heap.size + 1) v0 []) := hL0
       clear hv0 hB0 hL0
       skip)
    | (refine wpList_load_ord rfl rfl ((HO.out.later HB0.out).later ((Below.refl _ _).alloc (Nat.le_refl _) _)) ?_)
    | go_in)
  have hU : uu = (x, y, z, p, q, r, true) := HU.out
  go_loopw [3, 18] (fun v i wr => ∃ k : Nat, k ≤ 6 ∧ i = .int .i64 k ∧ Rd w w0.heap.size uu (cells7 x y z p q r true) k v wr) (fun _ i _ => 6 - (intOf i).toNat)
  case atStart =>
    refine ⟨0, by omega, rfl, ⟨.map [], World.ownsMap_made _ _ _ _, keys_none⟩, HL.out.alloc _, ?_, HS.out.alloc _, then_alloc HB0.out _, ?_, by simp⟩
    · rw [HV.out]
      have := HZ.out
      simp; omega
    · have := HZ.out; omega
  case round =>
    obtain ⟨k, hk, rfl, R⟩ := hrel
    obtain ⟨ao, cap, rfl, _⟩ := R.list.view
    have hl := accT_len uu k
    by_cases hlt : (k : Int) < 6
    · have hk6 : k < 6 := by omega
      obtain ⟨a, b, c, x', y', z', p', q', r', t', hby, hix, htu⟩ := order_at x y z p q r true hk6
      rw [← hU] at hby
      have hmy : mayT (x', y', z', p', q', r', t') := by rw [← hby]; exact byOrd_may (by rw [hU]; exact HM.out) k
      have HMY : Hid (mayT (x', y', z', p', q', r', t')) := hmy
      have hkey := key_w hmy
      have HBY : Hid (byOrd uu k = (x', y', z', p', q', r', t')) := hby
      obtain ⟨s0, s1, s2, s3, s4, s5, s6⟩ := R.src.seven
      have hbz : w.heap.size < wr.heap.size := R.src.lt
      clear hmy hby hU
      by_cases hin : (x', y', z', p', q', r', t') ∈ accT uu k
      · have HIN : Hid ((x', y', z', p', q', r', t') ∈ accT uu k) := hin
        clear hin
        go_wp2_with (first
          | (go_at_call 28; refine (htu _).mono ?_; rintro e w1 ⟨rfl, hB1⟩
             have R2 := R.upto hB1 (.cells (cells7 x' y' z' p' q' r' t') 29)
             obtain ⟨D, hD, hK⟩ := R2.map
             have hh := hK _ HMY.out
             rw [decide_eq_true HIN.out] at hh
             clear hK)
          | (at_lookup; refine wpList_lookup_own_ok_int _ rfl _ _ 54 rfl 29 3 .i64 lawW Tryd.underlying54 Tryd.underlying3 (zeroI _) w0.heap.size k D rfl hD _ _ rfl hkey ?_; intro cc hat hwc)
          | go_in)
        go_roundw
        case rel => exact ⟨k + 1, by omega, by go_num, R2.stay (by rw [HBY.out]; exact HIN.out)⟩
        case measure => simp [intOf]; omega
      · have HIN : Hid ((x', y', z', p', q', r', t') ∉ accT uu k) := hin
        clear hin
        go_wp2_with (first
          | (go_at_call 28; refine (htu _).mono ?_; rintro e w1 ⟨rfl, hB1⟩
             have R2 := R.upto hB1 (.cells (cells7 x' y' z' p' q' r' t') 29)
             obtain ⟨D, hD, hK⟩ := R2.map
             have hh := hK _ HMY.out
             rw [decide_eq_false HIN.out] at hh
             have HK : Hid (Keys D (accT uu k)) := hK
             clear hK)
          | (at_lookup; refine wpList_lookup_own_ok_int _ rfl _ _ 54 rfl 29 3 .i64 lawW Tryd.underlying54 Tryd.underlying3 (zeroI _) w0.heap.size k D rfl hD _ _ rfl hkey ?_; intro cc hat hwc)
          | (at_mapUpdate; refine wpList_mapUpdate_own _ rfl _ _ _ 54 rfl 29 3 lawW Tryd.underlying54 _ w0.heap.size k D rfl hD (by unfold maxLen; omega) _ _ _ rfl rfl hkey _ [] (plainElem_int Tryd.underlying3 (WalkArith.wf_i64 (by omega))) ?_; intro w3 hO3 hG3
             obtain ⟨j0, j1, j2, j3, j4, j5, j6⟩ := Blk.seven (turned_kept R.size hB1 hG3)
             have hL3 := R2.list3 hG3
             have hz3 := R2.size3 hG3
             have hl3 : (accT uu k).length ≤ 100000 := by omega)
          | (at_builtin; refine wpList_appW (base := w.heap.size + 1) (xs := accT uu k) rfl _ _ rfl rfl rfl hL3 hl3 hz3 ?_; intro v4 w4 hW4 hG4 hloc)
          | go_in)
        go_roundw
        case rel =>
          have e := HBY.out
          exact ⟨k + 1, by omega, by go_num, R2.next (by rw [e]; exact HIN.out) (by rw [e]; exact HMY.out) HK.out hD.isMap (by rw [e]; exact hO3) hG3 (by rw [e]; exact hW4) hG4 hloc⟩
        case measure => simp [intOf]; omega
    · obtain rfl : k = 6 := by omega
      have hW := R.list.weak (Nat.le_succ w.heap.size)
      have hB := R.below
      clear R hU
      go_wp2
      go_ret
      exact ⟨_, rfl, hW, hB⟩

end Go.Proofs.YtanhhlekbdhfmaaDoor
