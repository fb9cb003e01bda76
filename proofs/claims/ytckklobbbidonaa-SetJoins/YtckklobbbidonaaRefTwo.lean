/-
  The document's answer of sets of two (tidehallref03), the rest: And, Or, Less, All, Meets, Meet, Inside, In.
-/
import Derived.Test.YtckklobbbidonaaRefSet
namespace Go.Proofs.Ytckklobbbidonaa
open Go Go.RowKit Go.Shelf

theorem joined_is {op : Nat → Nat → Nat} {g : Bool → Bool → Bool} {c1 c2 c3 : Bool} {n : Nat} {a b ws : List Nat} (hma : mayS n a = true) (hmb : mayS n b = true)
    (hz : IsSet ((n + 63) / 64) (List.zipWith op a b) (fun j => g (hasW a j) (hasW b j))) (hg : ∀ x y, pick3 c1 c2 c3 x y = g x y)
    (hw : IsSet ((n + 63) / 64) ws (fun j => decide (j < n) && pick3 c1 c2 c3 (hasW a j) (hasW b j))) : ws = List.zipWith op a b := by
  refine hw.ext (hz.congr fun j => ?_)
  by_cases h : j < n
  · simp [h, hg]
  · have h1 := (mayS_iff.1 hma).2 j (by omega)
    have h2 := (mayS_iff.1 hmb).2 j (by omega)
    have h3 := hg false false
    simp [h, h1, h2]
    rw [← h3]; simp [pick3]

theorem rand_calls {va vb : Value} {a b : List Nat} (w : World) (ha : Wds w va a) (hb : Wds w vb b) (n : Int) :
    Calls Try.prog 5 #[I n, va, vb] w fun e W' => ∃ v, e = .returned (.tuple #[v, I (errAll n [a, b])]) ∧ SetR W' w.heap.size v (joinW andW n a b) ∧ Below w.heap.size w W' := by
  obtain ⟨zs, hzs⟩ : ∃ zs, zs = joinW andW n a b := ⟨_, rfl⟩
  obtain ⟨er, her⟩ : ∃ er, er = errAll n [a, b] := ⟨_, rfl⟩
  have C := two_calls w ha hb n
  rw [← her] at C ⊢
  rw [← hzs]
  by_cases h0 : er = 0
  · have h0' := her.symm.trans h0
    obtain ⟨h1, h2, hma, hmb⟩ := err_two h0'
    obtain ⟨m, rfl⟩ : ∃ m : Nat, n = m := ⟨n.toNat, by omega⟩
    rw [Int.toNat_natCast] at hma hmb
    have D := joined_calls w ha hb m (by omega) (by omega) true false false (.inl ⟨rfl, rfl, rfl⟩)
    have HZ : Hid (∀ ws, IsSet ((m + 63) / 64) ws (fun j => decide (j < m) && pick3 true false false (hasW a j) (hasW b j)) → ws = zs) := fun ws h => by
      rw [hzs, joinW, if_pos h0']
      exact joined_is hma hmb (zip_and (mayS_iff.1 hma).1 (mayS_iff.1 hmb).1 ha.1 hb.1) (fun x y => by cases x <;> cases y <;> rfl) h
    clear hzs her hma hmb h0'
    subst h0
    go_enter Try.func5, Try.ntmps5
    go_wp2_with fail
    refine C.mono ?_
    rintro e w1 ⟨rfl, hw⟩
    subst hw
    go_wp2_with fail
    refine D.mono ?_
    rintro e w2 ⟨v, ws, rfl, hS, hI, hB⟩
    obtain rfl := HZ.out ws hI
    go_wp2
    go_ret2
    exact ⟨_, rfl, .inl hS, hB⟩
  · have hz : zs = [] := by rw [hzs, joinW, if_neg (fun e => h0 (her.trans e))]
    clear hzs her
    subst hz
    go_enter Try.func5, Try.ntmps5
    go_wp2_with fail
    refine C.mono ?_
    rintro e w1 ⟨rfl, hw⟩
    subst hw
    go_wp2
    go_ret2
    exact ⟨_, rfl, .inr ⟨rfl, rfl⟩, Below.refl _ _⟩

theorem ror_calls {va vb : Value} {a b : List Nat} (w : World) (ha : Wds w va a) (hb : Wds w vb b) (n : Int) :
    Calls Try.prog 7 #[I n, va, vb] w fun e W' => ∃ v, e = .returned (.tuple #[v, I (errAll n [a, b])]) ∧ SetR W' w.heap.size v (joinW orW n a b) ∧ Below w.heap.size w W' := by
  obtain ⟨zs, hzs⟩ : ∃ zs, zs = joinW orW n a b := ⟨_, rfl⟩
  obtain ⟨er, her⟩ : ∃ er, er = errAll n [a, b] := ⟨_, rfl⟩
  have C := two_calls w ha hb n
  rw [← her] at C ⊢
  rw [← hzs]
  by_cases h0 : er = 0
  · have h0' := her.symm.trans h0
    obtain ⟨h1, h2, hma, hmb⟩ := err_two h0'
    obtain ⟨m, rfl⟩ : ∃ m : Nat, n = m := ⟨n.toNat, by omega⟩
    rw [Int.toNat_natCast] at hma hmb
    have D := joined_calls w ha hb m (by omega) (by omega) true true true (.inr (.inl ⟨rfl, rfl, rfl⟩))
    have HZ : Hid (∀ ws, IsSet ((m + 63) / 64) ws (fun j => decide (j < m) && pick3 true true true (hasW a j) (hasW b j)) → ws = zs) := fun ws h => by
      rw [hzs, joinW, if_pos h0']
      exact joined_is hma hmb (zip_or (mayS_iff.1 hma).1 (mayS_iff.1 hmb).1 ha.1 hb.1) (fun x y => by cases x <;> cases y <;> rfl) h
    clear hzs her hma hmb h0'
    subst h0
    go_enter Try.func7, Try.ntmps7
    go_wp2_with fail
    refine C.mono ?_
    rintro e w1 ⟨rfl, hw⟩
    subst hw
    go_wp2_with fail
    refine D.mono ?_
    rintro e w2 ⟨v, ws, rfl, hS, hI, hB⟩
    obtain rfl := HZ.out ws hI
    go_wp2
    go_ret2
    exact ⟨_, rfl, .inl hS, hB⟩
  · have hz : zs = [] := by rw [hzs, joinW, if_neg (fun e => h0 (her.trans e))]
    clear hzs her
    subst hz
    go_enter Try.func7, Try.ntmps7
    go_wp2_with fail
    refine C.mono ?_
    rintro e w1 ⟨rfl, hw⟩
    subst hw
    go_wp2
    go_ret2
    exact ⟨_, rfl, .inr ⟨rfl, rfl⟩, Below.refl _ _⟩

theorem rless_calls {va vb : Value} {a b : List Nat} (w : World) (ha : Wds w va a) (hb : Wds w vb b) (n : Int) :
    Calls Try.prog 9 #[I n, va, vb] w fun e W' => ∃ v, e = .returned (.tuple #[v, I (errAll n [a, b])]) ∧ SetR W' w.heap.size v (joinW notW n a b) ∧ Below w.heap.size w W' := by
  obtain ⟨zs, hzs⟩ : ∃ zs, zs = joinW notW n a b := ⟨_, rfl⟩
  obtain ⟨er, her⟩ : ∃ er, er = errAll n [a, b] := ⟨_, rfl⟩
  have C := two_calls w ha hb n
  rw [← her] at C ⊢
  rw [← hzs]
  by_cases h0 : er = 0
  · have h0' := her.symm.trans h0
    obtain ⟨h1, h2, hma, hmb⟩ := err_two h0'
    obtain ⟨m, rfl⟩ : ∃ m : Nat, n = m := ⟨n.toNat, by omega⟩
    rw [Int.toNat_natCast] at hma hmb
    have D := joined_calls w ha hb m (by omega) (by omega) false true false (.inr (.inr ⟨rfl, rfl, rfl⟩))
    have HZ : Hid (∀ ws, IsSet ((m + 63) / 64) ws (fun j => decide (j < m) && pick3 false true false (hasW a j) (hasW b j)) → ws = zs) := fun ws h => by
      rw [hzs, joinW, if_pos h0']
      exact joined_is (g := fun x y => x && !y) hma hmb (zip_not (mayS_iff.1 hma).1 (mayS_iff.1 hmb).1 ha.1 hb.1) (fun x y => by cases x <;> cases y <;> rfl) h
    clear hzs her hma hmb h0'
    subst h0
    go_enter Try.func9, Try.ntmps9
    go_wp2_with fail
    refine C.mono ?_
    rintro e w1 ⟨rfl, hw⟩
    subst hw
    go_wp2_with fail
    refine D.mono ?_
    rintro e w2 ⟨v, ws, rfl, hS, hI, hB⟩
    obtain rfl := HZ.out ws hI
    go_wp2
    go_ret2
    exact ⟨_, rfl, .inl hS, hB⟩
  · have hz : zs = [] := by rw [hzs, joinW, if_neg (fun e => h0 (her.trans e))]
    clear hzs her
    subst hz
    go_enter Try.func9, Try.ntmps9
    go_wp2_with fail
    refine C.mono ?_
    rintro e w1 ⟨rfl, hw⟩
    subst hw
    go_wp2
    go_ret2
    exact ⟨_, rfl, .inr ⟨rfl, rfl⟩, Below.refl _ _⟩

end Go.Proofs.Ytckklobbbidonaa
