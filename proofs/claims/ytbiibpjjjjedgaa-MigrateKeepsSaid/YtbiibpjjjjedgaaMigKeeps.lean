/- The statement that rounding goes against the life: its walk. -/
import Derived.Test.YtbiibpjjjjedgaaMigHead
import Derived.Test.YtbiibpjjjjedgaaMigCompare
import Derived.Test.YtbiibpjjjjedgaaTwo
namespace Go.Proofs.Ytbiibpjjjjedgaa
open Go.RowKit

set_option maxRecDepth 100000 in
set_option maxHeartbeats 4000000 in
theorem lawKeeps_skip (l h c d e : Int) (he : e ≠ 0) (w : World)
    (HX : ∀ w, Calls Try.prog 11 #[.agg #[.int .i64 l, .int .i64 h], .int .i64 c, .int .i64 d] w fun r w' => r = .returned (.tuple #[.agg #[.int .i64 0, .int .i64 0], .int .i64 e]) ∧ Below w.heap.size w w') :
    Calls Try.prog 4 #[.agg #[.int .i64 l, .int .i64 h], .int .i64 c, .int .i64 d] w fun e w' => e = .returned (.bool true) ∧ Below w.heap.size w w' := by
  have KX := Lib.hid HX
  clear HX
  have h1 : (e == 0) = false := by simp [he]
  have h2 : (e != 0) = true := by simp [he]
  clear he
  go_enter Try.func4, Try.ntmps4
  go_wp2_with fail
  refine (head25_any _).mono ?_
  rintro e v1 ⟨rfl, hb⟩
  obtain ⟨f1, f2⟩ := (Two.new w l h 23 rfl).below hb
  have hB := below_step (below_alloc (Below.refl _ w) _) hb
  clear hb
  go_wp2_with fail
  refine (KX.out _).mono ?_
  rintro e v2 ⟨rfl, hb⟩
  have HC := Lib.hid (Two.new v2 0 0 23 rfl)
  replace hB := below_alloc (below_step hB hb) (.cells #[.int .i64 0, .int .i64 0] 23)
  clear hb f1 f2
  go_wp2_with fail
  obtain ⟨W8, HW8⟩ : ∃ W8, Hid (W8 = v2.alloc (.cells #[.int .i64 0, .int .i64 0] 23)) := ⟨_, Lib.hid rfl⟩
  rw [← HW8.out] at HC hB ⊢
  obtain ⟨r1, r2⟩ := HC.out.grown
  refine wp_region_grown (by kernel_rfl) (by kernel_rfl) ?_
  repeat (go_big_quiet_step ((go_at_call 17; with_reducible exact grown_of (of25_any _ _ _))))
  refine wpQuiet_nil ?_
  rintro _ ⟨X, rfl⟩
  go_wp2
  go_ret
  exact ⟨rfl, below_step hB X.below⟩

set_option maxRecDepth 100000 in
set_option maxHeartbeats 4000000 in
theorem lawKeeps_main (l h c d x0 x1 r1 r2 r3 r4 : Int) (hu : 0 ≤ l ∧ l ≤ h ∧ h ≤ 1000000000000) (hc : 1 ≤ c ∧ c ≤ 1000000000000) (hd : 1 ≤ d ∧ d ≤ 1000000000000) (hx : 0 ≤ x0 ∧ x0 ≤ x1 ∧ x1 ≤ 1000000000000) (w : World)
    (HX : ∀ w, Calls Try.prog 11 #[.agg #[.int .i64 l, .int .i64 h], .int .i64 c, .int .i64 d] w fun r w' => r = .returned (.tuple #[.agg #[.int .i64 x0, .int .i64 x1], .int .i64 0]) ∧ Below w.heap.size w w')
    (H1 : ∀ w, Calls Try.prog 18 #[.int .i64 x1, .int .i64 c, .int .i64 h, .int .i64 d] w fun e w' => e = .returned (.int .i64 r1) ∧ w = w') (g1 : 0 ≤ r1)
    (H2 : x1 ≠ 0 → ∀ w, Calls Try.prog 18 #[.int .i64 (x1 - 1), .int .i64 c, .int .i64 h, .int .i64 d] w fun e w' => e = .returned (.int .i64 r2) ∧ w = w') (g2 : r2 < 0)
    (H3 : ∀ w, Calls Try.prog 18 #[.int .i64 x0, .int .i64 c, .int .i64 l, .int .i64 d] w fun e w' => e = .returned (.int .i64 r3) ∧ w = w') (g3 : r3 ≤ 0)
    (H4 : ∀ w, Calls Try.prog 18 #[.int .i64 (x0 + 1), .int .i64 c, .int .i64 l, .int .i64 d] w fun e w' => e = .returned (.int .i64 r4) ∧ w = w') (g4 : 0 < r4) :
    Calls Try.prog 4 #[.agg #[.int .i64 l, .int .i64 h], .int .i64 c, .int .i64 d] w fun e w' => e = .returned (.bool true) ∧ Below w.heap.size w w' := by
  have KX := Lib.hid HX
  have K1 := Lib.hid H1
  have K2 := Lib.hid H2
  have K3 := Lib.hid H3
  have K4 := Lib.hid H4
  clear HX H1 H2 H3 H4
  obtain ⟨u1, u2, u3⟩ := hu
  obtain ⟨c1, c2⟩ := hc
  obtain ⟨d1, d2⟩ := hd
  obtain ⟨x2, x3, x4⟩ := hx
  by_cases hz : x1 = 0
  · subst hz
    go_enter Try.func4, Try.ntmps4
    go_wp2_with fail
    refine (head25_any _).mono ?_
    rintro e v1 ⟨rfl, hb⟩
    have HA := Lib.hid ((Two.new w l h 23 rfl).below hb)
    obtain ⟨f1, f2⟩ := HA.out
    have hB := below_step (below_alloc (Below.refl _ w) _) hb
    clear hb
    go_wp2_with fail
    refine (KX.out _).mono ?_
    rintro e v2 ⟨rfl, hb⟩
    obtain ⟨f3, f4⟩ := (HA.out.below hb).alloc (.cells #[.int .i64 x0, .int .i64 0] 23)
    obtain ⟨f5, f6⟩ := Two.new v2 x0 0 23 rfl
    replace hB := below_alloc (below_step hB hb) (.cells #[.int .i64 x0, .int .i64 0] 23)
    clear hb f1 f2 HA
    go_wp2_with fail
    refine (K1.out _).mono ?_
    rintro e _ ⟨rfl, rfl⟩
    go_wp2_with fail
    refine (K3.out _).mono ?_
    rintro e _ ⟨rfl, rfl⟩
    go_wp2_with fail
    refine (K4.out _).mono ?_
    rintro e _ ⟨rfl, rfl⟩
    go_wp2
    go_ret
    exact ⟨rfl, hB⟩
  · have z1 : (x1 == 0) = false := by simp [hz]
    replace K2 := Lib.hid (K2.out hz)
    clear hz
    go_enter Try.func4, Try.ntmps4
    go_wp2_with fail
    refine (head25_any _).mono ?_
    rintro e v1 ⟨rfl, hb⟩
    have HA := Lib.hid ((Two.new w l h 23 rfl).below hb)
    obtain ⟨f1, f2⟩ := HA.out
    have hB := below_step (below_alloc (Below.refl _ w) _) hb
    clear hb
    go_wp2_with fail
    refine (KX.out _).mono ?_
    rintro e v2 ⟨rfl, hb⟩
    obtain ⟨f3, f4⟩ := (HA.out.below hb).alloc (.cells #[.int .i64 x0, .int .i64 x1] 23)
    obtain ⟨f5, f6⟩ := Two.new v2 x0 x1 23 rfl
    replace hB := below_alloc (below_step hB hb) (.cells #[.int .i64 x0, .int .i64 x1] 23)
    clear hb f1 f2 HA
    go_wp2_with fail
    refine (K1.out _).mono ?_
    rintro e _ ⟨rfl, rfl⟩
    go_wp2_with fail
    refine (K2.out _).mono ?_
    rintro e _ ⟨rfl, rfl⟩
    go_wp2_with fail
    refine (K3.out _).mono ?_
    rintro e _ ⟨rfl, rfl⟩
    go_wp2_with fail
    refine (K4.out _).mono ?_
    rintro e _ ⟨rfl, rfl⟩
    go_wp2
    go_ret
    exact ⟨rfl, hB⟩

theorem lawKeeps_any (l h c d : Int) (w : World) :
    Calls Try.prog 4 #[.agg #[.int .i64 l, .int .i64 h], .int .i64 c, .int .i64 d] w fun e w' => e = .returned (.bool true) ∧ Below w.heap.size w w' := by
  by_cases he : Mig.err l h c d = 0
  · obtain ⟨hok, hfit⟩ := Mig.err_iff.1 he
    obtain ⟨hu, hc, hd⟩ := Mig.ok_iff.1 hok
    have hs := scale_any l h c d
    unfold Mig.lo Mig.hi at hs
    rw [he, if_pos rfl, if_pos rfl] at hs
    have h0 := Mig.down_nonneg (n := l) hu.1 hc.1 hd.1
    have h1 := Mig.down_le_up hu.2.1 hc.1 hd.1
    have a1 := Mig.up_ge (n := h) (d := d) hc.1
    have a2 := Mig.up_lt (n := h) (d := d) hc.1
    have a3 := Mig.down_le (n := l) (d := d) hc.1
    have a4 := Mig.down_lt (n := l) (d := d) hc.1
    refine lawKeeps_main l h c d _ _ (cmpV (Mig.up h c d * c) (h * d)) (cmpV ((Mig.up h c d - 1) * c) (h * d)) (cmpV (Mig.down l c d * c) (l * d)) (cmpV ((Mig.down l c d + 1) * c) (l * d)) hu hc hd ⟨h0, h1, hfit⟩ w hs ?_ ?_ ?_ ?_ ?_ ?_ ?_ ?_
    · exact compare_any _ _ _ _ ⟨by omega, by omega⟩ ⟨by omega, by omega⟩ ⟨by omega, by omega⟩ ⟨by omega, by omega⟩
    · have := cmpV_cases (Mig.up h c d * c) (h * d); omega
    · exact fun hz => compare_any _ _ _ _ ⟨by omega, by omega⟩ ⟨by omega, by omega⟩ ⟨by omega, by omega⟩ ⟨by omega, by omega⟩
    · have := cmpV_cases ((Mig.up h c d - 1) * c) (h * d); omega
    · exact compare_any _ _ _ _ ⟨by omega, by omega⟩ ⟨by omega, by omega⟩ ⟨by omega, by omega⟩ ⟨by omega, by omega⟩
    · have := cmpV_cases (Mig.down l c d * c) (l * d); omega
    · exact compare_any _ _ _ _ ⟨by omega, by omega⟩ ⟨by omega, by omega⟩ ⟨by omega, by omega⟩ ⟨by omega, by omega⟩
    · have := cmpV_cases ((Mig.down l c d + 1) * c) (l * d); omega
  · have hs := scale_any l h c d
    unfold Mig.lo Mig.hi at hs
    rw [if_neg he, if_neg he] at hs
    exact lawKeeps_skip l h c d _ he w hs

end Go.Proofs.Ytbiibpjjjjedgaa
