/- The statement on lives that are used up: its walk. -/
import Derived.Test.YtbiibpjjjjedgaaMigHead
import Derived.Test.YtbiibpjjjjedgaaTwo
namespace Go.Proofs.Ytbiibpjjjjedgaa
open Go.RowKit

set_option maxRecDepth 100000 in
set_option maxHeartbeats 4000000 in
theorem lawFull_skip (l h c d x0 x1 e : Int) (he : e ≠ 0) (w : World)
    (HX : ∀ w, Calls Try.prog 11 #[.agg #[.int .i64 l, .int .i64 h], .int .i64 c, .int .i64 d] w fun r w' => r = .returned (.tuple #[.agg #[.int .i64 x0, .int .i64 x1], .int .i64 e]) ∧ Below w.heap.size w w') :
    Calls Try.prog 5 #[.agg #[.int .i64 l, .int .i64 h], .int .i64 c, .int .i64 d] w fun e w' => e = .returned (.bool true) ∧ Below w.heap.size w w' := by
  have KX := Lib.hid HX
  clear HX
  have h1 : (e == 0) = false := by simp [he]
  have h2 : (e != 0) = true := by simp [he]
  clear he
  go_enter Try.func5, Try.ntmps5
  go_wp2_with fail
  refine (head25_any _).mono ?_
  rintro e v1 ⟨rfl, hb⟩
  obtain ⟨f1, f2⟩ := (Two.new w l h 23 rfl).below hb
  have hB := below_step (below_alloc (Below.refl _ w) _) hb
  clear hb
  go_wp2_with fail
  refine (KX.out _).mono ?_
  rintro e v2 ⟨rfl, hb⟩
  replace hB := below_alloc (below_step hB hb) (.cells #[.int .i64 x0, .int .i64 x1] 23)
  clear hb f1 f2
  go_wp2
  go_ret
  exact ⟨rfl, hB⟩

theorem full_whole {c d : Int} (hc : 1 ≤ c ∧ c ≤ 1000000000000) (hd : 1 ≤ d ∧ d ≤ 1000000000000) (w : World) :
    Calls Try.prog 11 #[.agg #[.int .i64 c, .int .i64 c], .int .i64 c, .int .i64 d] w fun r w' => r = .returned (.tuple #[.agg #[.int .i64 d, .int .i64 d], .int .i64 0]) ∧ Below w.heap.size w w' := by
  have := scale_any c c c d w
  have e : Mig.err c c c d = 0 := Mig.err_iff.2 ⟨Mig.ok_iff.2 ⟨⟨by omega, by omega, by omega⟩, hc, hd⟩, by rw [Mig.up_whole hc.1]; exact hd.2⟩
  unfold Mig.lo Mig.hi at this
  rwa [e, if_pos rfl, if_pos rfl, Mig.down_whole hc.1, Mig.up_whole hc.1] at this
theorem full_none {c d : Int} (hc : 1 ≤ c ∧ c ≤ 1000000000000) (hd : 1 ≤ d ∧ d ≤ 1000000000000) (w : World) :
    Calls Try.prog 11 #[.agg #[.int .i64 0, .int .i64 0], .int .i64 c, .int .i64 d] w fun r w' => r = .returned (.tuple #[.agg #[.int .i64 0, .int .i64 0], .int .i64 0]) ∧ Below w.heap.size w w' := by
  have := scale_any 0 0 c d w
  have e : Mig.err 0 0 c d = 0 := Mig.err_iff.2 ⟨Mig.ok_iff.2 ⟨⟨by omega, by omega, by omega⟩, hc, hd⟩, by rw [Mig.up_zero hc.1]; omega⟩
  unfold Mig.lo Mig.hi at this
  rwa [e, if_pos rfl, if_pos rfl, Mig.down_zero, Mig.up_zero hc.1] at this
theorem full_same {l h c : Int} (hu : 0 ≤ l ∧ l ≤ h ∧ h ≤ 1000000000000) (hc : 1 ≤ c ∧ c ≤ 1000000000000) (w : World) :
    Calls Try.prog 11 #[.agg #[.int .i64 l, .int .i64 h], .int .i64 c, .int .i64 c] w fun r w' => r = .returned (.tuple #[.agg #[.int .i64 l, .int .i64 h], .int .i64 0]) ∧ Below w.heap.size w w' := by
  have := scale_any l h c c w
  have e : Mig.err l h c c = 0 := Mig.err_iff.2 ⟨Mig.ok_iff.2 ⟨hu, hc, hc⟩, by rw [Mig.up_self hc.1]; exact hu.2.2⟩
  unfold Mig.lo Mig.hi at this
  rwa [e, if_pos rfl, if_pos rfl, Mig.down_self hc.1, Mig.up_self hc.1] at this

set_option maxRecDepth 100000 in
set_option maxHeartbeats 4000000 in
theorem lawFull_main (l h c d x0 x1 : Int) (hu : 0 ≤ l ∧ l ≤ h ∧ h ≤ 1000000000000) (hc : 1 ≤ c ∧ c ≤ 1000000000000) (hd : 1 ≤ d ∧ d ≤ 1000000000000) (w : World)
    (HX : ∀ w, Calls Try.prog 11 #[.agg #[.int .i64 l, .int .i64 h], .int .i64 c, .int .i64 d] w fun r w' => r = .returned (.tuple #[.agg #[.int .i64 x0, .int .i64 x1], .int .i64 0]) ∧ Below w.heap.size w w')
    (q1 : h < c ∨ c ≤ h ∧ d ≤ x1) (q2 : (decide (l < c) == decide (x0 < d)) = true) (q3 : (decide (0 < h) == decide (0 < x1)) = true) :
    Calls Try.prog 5 #[.agg #[.int .i64 l, .int .i64 h], .int .i64 c, .int .i64 d] w fun e w' => e = .returned (.bool true) ∧ Below w.heap.size w w' := by
  have KX := Lib.hid HX
  have KW := Lib.hid (fun w => full_whole hc hd w)
  have KN := Lib.hid (fun w => full_none hc hd w)
  have KS := Lib.hid (fun w => full_same hu hc w)
  have Q2 := Lib.hid q2
  have Q3 := Lib.hid q3
  clear HX q2 q3
  go_enter Try.func5, Try.ntmps5
  go_wp2_with fail
  refine (head25_any _).mono ?_
  rintro e v1 ⟨rfl, hb⟩
  have HA := Lib.hid ((Two.new w l h 23 rfl).below hb)
  obtain ⟨f1, f2⟩ := HA.out
  have hB := below_step (below_alloc (Below.refl _ w) _) hb
  clear hb
  go_wp2_with fail
  refine (KX.out _).mono ?_
  rintro e v2 ⟨rfl, hb⟩
  have HA' := Lib.hid ((HA.out.below hb).alloc (.cells #[.int .i64 x0, .int .i64 x1] 23))
  have HC := Lib.hid (Two.new v2 x0 x1 23 rfl)
  replace hB := below_alloc (below_step hB hb) (.cells #[.int .i64 x0, .int .i64 x1] 23)
  clear hb f1 f2 HA
  go_wp2_with fail
  refine (of25_any _ _ _).mono ?_
  rintro e v3 ⟨rfl, hb⟩
  have HA := Lib.hid (HA'.out.below hb)
  replace HC := Lib.hid (HC.out.below hb)
  replace hB := below_step hB hb
  clear hb HA'
  go_wp2_with fail
  refine (KW.out _).mono ?_
  rintro e v4 ⟨rfl, hb⟩
  replace HA := Lib.hid ((HA.out.below hb).alloc (.cells #[.int .i64 d, .int .i64 d] 23))
  replace HC := Lib.hid ((HC.out.below hb).alloc (.cells #[.int .i64 d, .int .i64 d] 23))
  have HD := Lib.hid (Two.new v4 d d 23 rfl)
  replace hB := below_alloc (below_step hB hb) (.cells #[.int .i64 d, .int .i64 d] 23)
  clear hb
  go_wp2_with fail
  refine (of25_any _ _ _).mono ?_
  rintro e v5 ⟨rfl, hb⟩
  replace HA := Lib.hid (HA.out.below hb)
  replace HC := Lib.hid (HC.out.below hb)
  replace HD := Lib.hid (HD.out.below hb)
  replace hB := below_step hB hb
  clear hb
  go_wp2_with fail
  refine (KN.out _).mono ?_
  rintro e v6 ⟨rfl, hb⟩
  replace HA := Lib.hid ((HA.out.below hb).alloc (.cells #[.int .i64 0, .int .i64 0] 23))
  replace HC := Lib.hid ((HC.out.below hb).alloc (.cells #[.int .i64 0, .int .i64 0] 23))
  replace HD := Lib.hid ((HD.out.below hb).alloc (.cells #[.int .i64 0, .int .i64 0] 23))
  have HE := Lib.hid (Two.new v6 0 0 23 rfl)
  replace hB := below_alloc (below_step hB hb) (.cells #[.int .i64 0, .int .i64 0] 23)
  obtain ⟨f1, f2⟩ := HA.out
  clear hb
  go_wp2_with fail
  refine (KS.out _).mono ?_
  rintro e v7 ⟨rfl, hb⟩
  replace HA := Lib.hid ((HA.out.below hb).alloc (.cells #[.int .i64 l, .int .i64 h] 23))
  replace HC := Lib.hid ((HC.out.below hb).alloc (.cells #[.int .i64 l, .int .i64 h] 23))
  replace HD := Lib.hid ((HD.out.below hb).alloc (.cells #[.int .i64 l, .int .i64 h] 23))
  replace HE := Lib.hid ((HE.out.below hb).alloc (.cells #[.int .i64 l, .int .i64 h] 23))
  have HG := Lib.hid (Two.new v7 l h 23 rfl)
  replace hB := below_alloc (below_step hB hb) (.cells #[.int .i64 l, .int .i64 h] 23)
  clear hb f1 f2
  go_wp2_with fail
  obtain ⟨W8, HW8⟩ : ∃ W8, Hid (W8 = v7.alloc (.cells #[.int .i64 l, .int .i64 h] 23)) := ⟨_, Lib.hid rfl⟩
  rw [← HW8.out] at HA HC HD HE HG hB ⊢
  obtain ⟨r1, r2⟩ := HA.out.grown
  obtain ⟨r3, r4⟩ := HD.out.grown
  obtain ⟨r5, r6⟩ := HE.out.grown
  obtain ⟨r7, r8⟩ := HG.out.grown
  refine wp_region_grown (by kernel_rfl) (by kernel_rfl) ?_
  repeat (go_big_quiet_step ((go_at_call 17; with_reducible exact grown_of (of25_any _ _ _))))
  refine wpQuiet_nil ?_
  rintro _ ⟨X, rfl⟩
  obtain ⟨f1, f2⟩ := HA.out.below X.below
  obtain ⟨f3, f4⟩ := HC.out.below X.below
  have hBX := below_step hB X.below
  clear r1 r2 r3 r4 r5 r6 r7 r8 HA HC HD HE HG
  have q2 := Q2.out
  have q3 := Q3.out
  rcases q1 with q1 | ⟨q1, q4⟩
  all_goals
    go_wp2
    all_goals
      go_ret
      exact ⟨rfl, hBX⟩

theorem lawFull_any (l h c d : Int) (w : World) :
    Calls Try.prog 5 #[.agg #[.int .i64 l, .int .i64 h], .int .i64 c, .int .i64 d] w fun e w' => e = .returned (.bool true) ∧ Below w.heap.size w w' := by
  by_cases he : Mig.err l h c d = 0
  · obtain ⟨hok, hfit⟩ := Mig.err_iff.1 he
    obtain ⟨hu, hc, hd⟩ := Mig.ok_iff.1 hok
    have hs := scale_any l h c d
    unfold Mig.lo Mig.hi at hs
    rw [he, if_pos rfl, if_pos rfl] at hs
    refine lawFull_main l h c d _ _ hu hc hd w hs ?_ ?_ ?_
    · rcases Int.lt_or_le h c with h1 | h1
      · exact Or.inl h1
      · exact Or.inr ⟨h1, Mig.full_high hc.1 hd.1 h1⟩
    · have := Mig.full_low (n := l) hc.1 hd.1
      simp [this]
    · have := Mig.pos_high (n := h) (by omega) hc.1 hd.1
      simp [this]
  · exact lawFull_skip l h c d _ _ _ he w (scale_any l h c d)

end Go.Proofs.Ytbiibpjjjjedgaa
