/-
  tidehalllaw05.WireBack returns true, whatever it is handed; nothing that lay before is turned.
-/
import Derived.Test.YtbbddolalglmnaaLawWire
namespace Go.Proofs.Ytbbddolalglmnaa
open Go Go.RowKit Go.Shelf

attribute [local go_sem] Oper.semAt_some ext_const

/-- A call that answers v. -/
def Ans (f : FuncId) (args : Array Value) (v : Value) : Prop := ∀ w : World, Calls Try.prog f args w fun x W' => x = .returned v ∧ Below w.heap.size w W'

/-- What wire.Link answers, and then wire.Ends of it. -/
theorem link_way (d0 d1 d2 axis m : Int) : (∃ e, (e == 0) = false ∧ Ans 8 #[A3 d0 d1 d2, I axis, I m] (.tuple #[I 0, I e])) ∨
    (∃ c o, Ans 8 #[A3 d0 d1 d2, I axis, I m] (.tuple #[I c, I 0]) ∧ Ans 10 #[A3 d0 d1 d2, I c] (.tuple #[I axis, I m, I o, I 0]) ∧ Ans 21 #[A3 d0 d1 d2, I m, I axis, I 1] (.tuple #[I o, I 0])) := by
  rcases refused_or d0 d1 d2 axis m with ⟨e, h⟩ | ⟨hm, hn, k, hk⟩
  · refine .inl ⟨e, ?_, fun w => link_ref w h⟩
    have := h.ne
    simpa using this
  · by_cases h1 : 1 < dimAt d0 d1 d2 k
    · refine .inr ⟨cabW d0 d1 d2 k m, onD d0 d1 d2 m k 1, fun w => link_yes w hm hn hk h1, fun w => ?_, fun w => ?_⟩
      · rw [hk]; exact ends_yes w hm hn k h1
      · rw [hk]; exact step_yes w hm hn k
    · exact .inl ⟨6, by decide, fun w => link_none w hm hn hk h1⟩
/-- What wire.Ends answers, and then wire.Link of it. -/
theorem ends_way (d0 d1 d2 link : Int) : (∃ e, (e != 0) = true ∧ Ans 10 #[A3 d0 d1 d2, I link] (.tuple #[I 0, I 0, I 0, I e])) ∨
    (∃ a p q, Ans 10 #[A3 d0 d1 d2, I link] (.tuple #[I a, I p, I q, I 0]) ∧ Ans 8 #[A3 d0 d1 d2, I a, I p] (.tuple #[I link, I 0]) ∧ Ans 22 #[A3 d0 d1 d2, I p, I q] (.tuple #[I 1, I 0])) := by
  by_cases hm : mayD d0 d1 d2
  · by_cases hl : 0 ≤ link ∧ link < 3 * (d0 * d1 * d2)
    · obtain ⟨k, m, hn, rfl⟩ := cab_of hm hl
      by_cases h1 : 1 < dimAt d0 d1 d2 k
      · refine .inr ⟨axI k, m, onD d0 d1 d2 m k 1, fun w => ends_yes w hm hn k h1, fun w => link_yes w hm hn rfl h1, fun w => ?_⟩
        have e := far_on hm hn k
        rw [if_pos h1] at e
        have h := far_yes w hm hn (on_node hm hn k 1)
        rw [e] at h
        exact h
      · exact .inl ⟨6, by decide, fun w => ends_none w hm hn k h1⟩
    · exact .inl ⟨2, by decide, fun w => ends_no w hm hl⟩
  · exact .inl ⟨8, by decide, fun w => ends_bad link w hm⟩

set_option maxRecDepth 100000 in
set_option maxHeartbeats 4000000 in
theorem wireBack_walk (d0 d1 d2 axis m link : Int) (w : World) :
    Calls Try.prog 5 #[A3 d0 d1 d2, I axis, I m, I link] w fun e W' => e = .returned (.bool true) ∧ Below w.heap.size w W' := by
  have b0 := Blk.new w 26 #[I d0, I d1, I d2]
  have hB0 := (Below.refl w.heap.size w).alloc (Nat.le_refl _) (.cells #[I d0, I d1, I d2] 26)
  rcases link_way d0 d1 d2 axis m with ⟨e1, he1, HL⟩ | ⟨c, o, HL, HE, HS⟩
  · rcases ends_way d0 d1 d2 link with ⟨e2, he2, KE⟩ | ⟨p, q, r, KE, KL, KF⟩
    · go_enter Try.func5, Try.ntmps5
      go_wp2_with fail
      generalize w.alloc (.cells #[I d0, I d1, I d2] 26) = W at *
      have hT := Below.refl W.heap.size W
      refine (alive5_calls _).mono ?_
      rintro e w1 ⟨rfl, hB⟩
      have hT := then_below hT hB
      clear hB
      obtain ⟨c0, c1, c2, hz⟩ := b0.three hT
      go_wp2_with fail
      refine (HL _).mono ?_
      rintro e w2 ⟨rfl, hB⟩
      have hT := then_below hT hB
      clear hB c0 c1 c2 hz
      obtain ⟨c0, c1, c2, hz⟩ := b0.three hT
      go_wp2_with fail
      refine (KE _).mono ?_
      rintro e w3 ⟨rfl, hB⟩
      have hT := then_below hT hB
      clear hB c0 c1 c2 hz
      go_wp2
      go_ret
      exact ⟨rfl, then_below hB0 hT⟩
    · go_enter Try.func5, Try.ntmps5
      go_wp2_with fail
      generalize w.alloc (.cells #[I d0, I d1, I d2] 26) = W at *
      have hT := Below.refl W.heap.size W
      refine (alive5_calls _).mono ?_
      rintro e w1 ⟨rfl, hB⟩
      have hT := then_below hT hB
      clear hB
      obtain ⟨c0, c1, c2, hz⟩ := b0.three hT
      go_wp2_with fail
      refine (HL _).mono ?_
      rintro e w2 ⟨rfl, hB⟩
      have hT := then_below hT hB
      clear hB c0 c1 c2 hz
      obtain ⟨c0, c1, c2, hz⟩ := b0.three hT
      go_wp2_with fail
      refine (KE _).mono ?_
      rintro e w3 ⟨rfl, hB⟩
      have hT := then_below hT hB
      clear hB c0 c1 c2 hz
      obtain ⟨c0, c1, c2, hz⟩ := b0.three hT
      go_wp2_with fail
      refine (KL _).mono ?_
      rintro e w4 ⟨rfl, hB⟩
      have hT := then_below hT hB
      clear hB c0 c1 c2 hz
      obtain ⟨c0, c1, c2, hz⟩ := b0.three hT
      go_wp2_with fail
      refine (KF _).mono ?_
      rintro e w5 ⟨rfl, hB⟩
      have hT := then_below hT hB
      clear hB c0 c1 c2 hz
      go_wp2
      go_ret
      exact ⟨rfl, then_below hB0 hT⟩
  · rcases ends_way d0 d1 d2 link with ⟨e2, he2, KE⟩ | ⟨p, q, r, KE, KL, KF⟩
    · go_enter Try.func5, Try.ntmps5
      go_wp2_with fail
      generalize w.alloc (.cells #[I d0, I d1, I d2] 26) = W at *
      have hT := Below.refl W.heap.size W
      refine (alive5_calls _).mono ?_
      rintro e w1 ⟨rfl, hB⟩
      have hT := then_below hT hB
      clear hB
      obtain ⟨c0, c1, c2, hz⟩ := b0.three hT
      go_wp2_with fail
      refine (HL _).mono ?_
      rintro e w2 ⟨rfl, hB⟩
      have hT := then_below hT hB
      clear hB c0 c1 c2 hz
      obtain ⟨c0, c1, c2, hz⟩ := b0.three hT
      go_wp2_with fail
      refine (HE _).mono ?_
      rintro e w3 ⟨rfl, hB⟩
      have hT := then_below hT hB
      clear hB c0 c1 c2 hz
      obtain ⟨c0, c1, c2, hz⟩ := b0.three hT
      go_wp2_with fail
      refine (HS _).mono ?_
      rintro e w4 ⟨rfl, hB⟩
      have hT := then_below hT hB
      clear hB c0 c1 c2 hz
      obtain ⟨c0, c1, c2, hz⟩ := b0.three hT
      go_wp2_with fail
      refine (KE _).mono ?_
      rintro e w5 ⟨rfl, hB⟩
      have hT := then_below hT hB
      clear hB c0 c1 c2 hz
      go_wp2
      go_ret
      exact ⟨rfl, then_below hB0 hT⟩
    · go_enter Try.func5, Try.ntmps5
      go_wp2_with fail
      generalize w.alloc (.cells #[I d0, I d1, I d2] 26) = W at *
      have hT := Below.refl W.heap.size W
      refine (alive5_calls _).mono ?_
      rintro e w1 ⟨rfl, hB⟩
      have hT := then_below hT hB
      clear hB
      obtain ⟨c0, c1, c2, hz⟩ := b0.three hT
      go_wp2_with fail
      refine (HL _).mono ?_
      rintro e w2 ⟨rfl, hB⟩
      have hT := then_below hT hB
      clear hB c0 c1 c2 hz
      obtain ⟨c0, c1, c2, hz⟩ := b0.three hT
      go_wp2_with fail
      refine (HE _).mono ?_
      rintro e w3 ⟨rfl, hB⟩
      have hT := then_below hT hB
      clear hB c0 c1 c2 hz
      obtain ⟨c0, c1, c2, hz⟩ := b0.three hT
      go_wp2_with fail
      refine (HS _).mono ?_
      rintro e w4 ⟨rfl, hB⟩
      have hT := then_below hT hB
      clear hB c0 c1 c2 hz
      obtain ⟨c0, c1, c2, hz⟩ := b0.three hT
      go_wp2_with fail
      refine (KE _).mono ?_
      rintro e w5 ⟨rfl, hB⟩
      have hT := then_below hT hB
      clear hB c0 c1 c2 hz
      obtain ⟨c0, c1, c2, hz⟩ := b0.three hT
      go_wp2_with fail
      refine (KL _).mono ?_
      rintro e w6 ⟨rfl, hB⟩
      have hT := then_below hT hB
      clear hB c0 c1 c2 hz
      obtain ⟨c0, c1, c2, hz⟩ := b0.three hT
      go_wp2_with fail
      refine (KF _).mono ?_
      rintro e w7 ⟨rfl, hB⟩
      have hT := then_below hT hB
      clear hB c0 c1 c2 hz
      go_wp2
      go_ret
      exact ⟨rfl, then_below hB0 hT⟩

end Go.Proofs.Ytbbddolalglmnaa
