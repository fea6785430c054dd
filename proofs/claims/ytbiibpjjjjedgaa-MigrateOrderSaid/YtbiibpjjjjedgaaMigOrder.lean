/- The statement on parts of lives and on greater limits: its walk. -/
import Derived.Test.YtbiibpjjjjedgaaMigHead
import Derived.Test.YtbiibpjjjjedgaaTwo
namespace Go.Proofs.Ytbiibpjjjjedgaa
open Go.RowKit

set_option maxRecDepth 100000 in
set_option maxHeartbeats 4000000 in
theorem lawOrder_skip (al ah bl bh c d m : Int) (hs : al < bl ∨ bl ≤ al ∧ bh < ah ∨ bl ≤ al ∧ ah ≤ bh ∧ m < d) (w : World) :
    Calls Try.prog 6 #[.agg #[.int .i64 al, .int .i64 ah], .agg #[.int .i64 bl, .int .i64 bh], .int .i64 c, .int .i64 d, .int .i64 m] w fun e w' => e = .returned (.bool true) ∧ Below w.heap.size w w' := by
  rcases hs with h1 | ⟨h1, h2⟩ | ⟨h1, h2, h3⟩
  all_goals
    go_enter Try.func6, Try.ntmps6
    go_wp2_with fail
    refine (head25_any _).mono ?_
    rintro e v1 ⟨rfl, hb⟩
    obtain ⟨f1, f2⟩ := ((Two.new w al ah 23 rfl).alloc (.cells #[.int .i64 bl, .int .i64 bh] 23)).below hb
    obtain ⟨f3, f4⟩ := (Two.new (w.alloc (.cells #[.int .i64 al, .int .i64 ah] 23)) bl bh 23 (b := w.heap.size + 1) (size_alloc _ _).symm).below hb
    have hB := below_step (below_alloc (below_alloc (Below.refl _ w) _) _) hb
    clear hb
    go_wp2
    go_ret
    exact ⟨rfl, hB⟩

set_option maxRecDepth 100000 in
set_option maxHeartbeats 4000000 in
theorem lawOrder_main (al ah bl bh c d m x0 x1 e y0 y1 f z0 z1 g : Int) (h1 : bl ≤ al) (h2 : ah ≤ bh) (h3 : d ≤ m) (w : World)
    (HX : ∀ w, Calls Try.prog 11 #[.agg #[.int .i64 al, .int .i64 ah], .int .i64 c, .int .i64 d] w fun r w' => r = .returned (.tuple #[.agg #[.int .i64 x0, .int .i64 x1], .int .i64 e]) ∧ Below w.heap.size w w')
    (HY : ∀ w, Calls Try.prog 11 #[.agg #[.int .i64 bl, .int .i64 bh], .int .i64 c, .int .i64 d] w fun r w' => r = .returned (.tuple #[.agg #[.int .i64 y0, .int .i64 y1], .int .i64 f]) ∧ Below w.heap.size w w')
    (HZ : ∀ w, Calls Try.prog 11 #[.agg #[.int .i64 al, .int .i64 ah], .int .i64 c, .int .i64 m] w fun r w' => r = .returned (.tuple #[.agg #[.int .i64 z0, .int .i64 z1], .int .i64 g]) ∧ Below w.heap.size w w')
    (q1 : f = 0 → al ≤ ah → e = 0 ∧ y0 ≤ x0 ∧ x1 ≤ y1) (q2 : e = 0 → g = 0 → x0 ≤ z0 ∧ x1 ≤ z1) :
    Calls Try.prog 6 #[.agg #[.int .i64 al, .int .i64 ah], .agg #[.int .i64 bl, .int .i64 bh], .int .i64 c, .int .i64 d, .int .i64 m] w fun e w' => e = .returned (.bool true) ∧ Below w.heap.size w w' := by
  have KX := Lib.hid HX
  have KY := Lib.hid HY
  have KZ := Lib.hid HZ
  clear HX HY HZ
  have hcase : ((f == 0) = true ∧ al ≤ ah ∧ (e == 0) = true ∧ (e != 0) = false ∧ y0 ≤ x0 ∧ x1 ≤ y1) ∨ ((f == 0) = true ∧ ah < al) ∨ (f == 0) = false := by
    by_cases hf : f = 0
    · by_cases ha : al ≤ ah
      · have := q1 hf ha
        exact Or.inl ⟨by simp [hf], ha, by simp [this.1], by simp [this.1], this.2⟩
      · exact Or.inr (Or.inl ⟨by simp [hf], by omega⟩)
    · exact Or.inr (Or.inr (by simp [hf]))
  have hcase2 : ((e == 0) = true ∧ (e != 0) = false ∧ (g == 0) = true ∧ (g != 0) = false ∧ x0 ≤ z0 ∧ x1 ≤ z1) ∨ ((e == 0) = true ∧ (e != 0) = false ∧ (g == 0) = false ∧ (g != 0) = true) ∨ ((e == 0) = false ∧ (e != 0) = true) := by
    by_cases he : e = 0
    · by_cases hg : g = 0
      · have := q2 he hg
        exact Or.inl ⟨by simp [he], by simp [he], by simp [hg], by simp [hg], this⟩
      · exact Or.inr (Or.inl ⟨by simp [he], by simp [he], by simp [hg], by simp [hg]⟩)
    · exact Or.inr (Or.inr ⟨by simp [he], by simp [he]⟩)
  clear q1 q2
  rcases hcase with ⟨k1, k2, k3, k4, k5, k6⟩ | ⟨k1, k2⟩ | k1 <;> rcases hcase2 with ⟨m1, m2, m3, m4, m5, m6⟩ | ⟨m1, m2, m3, m4⟩ | ⟨m1, m2⟩
  all_goals first
    | (exfalso; rw [k3] at m1; cases m1; done)
    | skip
  all_goals
    go_enter Try.func6, Try.ntmps6
    go_wp2_with fail
    refine (head25_any _).mono ?_
    rintro e v1 ⟨rfl, hb⟩
    have tA := ((Two.new w al ah 23 rfl).alloc (.cells #[.int .i64 bl, .int .i64 bh] 23)).below hb
    have tB := (Two.new (w.alloc (.cells #[.int .i64 al, .int .i64 ah] 23)) bl bh 23 (b := w.heap.size + 1) (size_alloc _ _).symm).below hb
    have hB := below_step (below_alloc (below_alloc (Below.refl _ w) _) _) hb
    clear hb
    have HA := Lib.hid tA
    have HB := Lib.hid tB
    obtain ⟨f1, f2⟩ := tA
    obtain ⟨f3, f4⟩ := tB
    go_wp2_with fail
    refine (KX.out _).mono ?_
    rintro e v2 ⟨rfl, hb⟩
    have tA := HA.out.below hb
    have tB := HB.out.below hb
    replace hB := below_step hB hb
    clear hb f1 f2 f3 f4 HA HB
    have HA := Lib.hid (tA.alloc (.cells #[.int .i64 x0, .int .i64 x1] 23))
    have HB := Lib.hid (tB.alloc (.cells #[.int .i64 x0, .int .i64 x1] 23))
    have HC := Lib.hid (Two.new v2 x0 x1 23 rfl)
    obtain ⟨f3, f4⟩ := HB.out
    clear tA tB
    go_wp2_with fail
    refine (KY.out _).mono ?_
    rintro e v3 ⟨rfl, hb⟩
    have tA := HA.out.below hb
    have tC := HC.out.below hb
    replace hB := below_step (below_alloc hB _) hb
    clear hb f3 f4 HA HB HC
    have HA := Lib.hid (tA.alloc (.cells #[.int .i64 y0, .int .i64 y1] 23))
    have HC := Lib.hid (tC.alloc (.cells #[.int .i64 y0, .int .i64 y1] 23))
    have HD := Lib.hid (Two.new v3 y0 y1 23 rfl)
    obtain ⟨f1, f2⟩ := HA.out
    clear tA tC
    go_wp2_with fail
    refine (KZ.out _).mono ?_
    rintro e v4 ⟨rfl, hb⟩
    obtain ⟨f1, f2⟩ := (HA.out.below hb).alloc (.cells #[.int .i64 z0, .int .i64 z1] 23)
    obtain ⟨f3, f4⟩ := (HC.out.below hb).alloc (.cells #[.int .i64 z0, .int .i64 z1] 23)
    obtain ⟨f5, f6⟩ := (HD.out.below hb).alloc (.cells #[.int .i64 z0, .int .i64 z1] 23)
    obtain ⟨f7, f8⟩ := Two.new v4 z0 z1 23 rfl
    replace hB := below_alloc (below_step (below_alloc hB _) hb) (.cells #[.int .i64 z0, .int .i64 z1] 23)
    clear hb HA HC HD
    go_wp2
    all_goals
      go_ret
      exact ⟨rfl, hB⟩

theorem lawOrder_any (al ah bl bh c d m : Int) (w : World) :
    Calls Try.prog 6 #[.agg #[.int .i64 al, .int .i64 ah], .agg #[.int .i64 bl, .int .i64 bh], .int .i64 c, .int .i64 d, .int .i64 m] w fun e w' => e = .returned (.bool true) ∧ Below w.heap.size w w' := by
  by_cases h1 : bl ≤ al
  · by_cases h2 : ah ≤ bh
    · by_cases h3 : d ≤ m
      · refine lawOrder_main al ah bl bh c d m _ _ _ _ _ _ _ _ _ h1 h2 h3 w (scale_any al ah c d) (scale_any bl bh c d) (scale_any al ah c m) ?_ ?_
        · intro hf ha
          obtain ⟨hok, hfit⟩ := Mig.err_iff.1 hf
          have ho := Mig.ok_iff.1 hok
          have hfa : Mig.err al ah c d = 0 := Mig.err_iff.2 ⟨Mig.ok_iff.2 ⟨by omega, ho.2⟩, Int.le_trans (Mig.up_mono h2 (by omega) ho.2.1.1 (by omega) (Int.le_refl _)) hfit⟩
          unfold Mig.lo Mig.hi
          rw [if_pos hf, if_pos hfa, if_pos hf, if_pos hfa]
          exact ⟨hfa, Mig.down_mono h1 (by omega) ho.2.1.1 (by omega) (Int.le_refl _), Mig.up_mono h2 (by omega) ho.2.1.1 (by omega) (Int.le_refl _)⟩
        · intro he hg
          have ho := Mig.ok_iff.1 (Mig.err_iff.1 he).1
          unfold Mig.lo Mig.hi
          rw [if_pos he, if_pos hg, if_pos he, if_pos hg]
          exact ⟨Mig.down_mono (Int.le_refl _) (by omega) ho.2.1.1 (by omega) h3, Mig.up_mono (Int.le_refl _) (by omega) ho.2.1.1 (by omega) h3⟩
      · exact lawOrder_skip al ah bl bh c d m (Or.inr (Or.inr ⟨h1, h2, by omega⟩)) w
    · exact lawOrder_skip al ah bl bh c d m (Or.inr (Or.inl ⟨h1, by omega⟩)) w
  · exact lawOrder_skip al ah bl bh c d m (Or.inl (by omega)) w

end Go.Proofs.Ytbiibpjjjjedgaa
