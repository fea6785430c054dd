/- The walks of the reference implementation of package migrate: a life for another limit, and what is left. -/
import Derived.Test.YtbiibpjjjjedgaaMigRef
namespace Go.Proofs.Ytbiibpjjjjedgaa
open Go.RowKit

set_option maxHeartbeats 4000000 in
theorem refScale_bad (l h c d : Int) (hok : Mig.okB l h c d = false) (w : World) :
    Calls Try.prog 12 #[.agg #[.int .i64 l, .int .i64 h], .int .i64 c, .int .i64 d] w
      fun e w' => e = .returned (.tuple #[.agg #[.int .i64 0, .int .i64 0], .int .i64 1]) ∧ Below w.heap.size w w' := by
  unfold Mig.okB at hok
  cases hu : Mig.usedB l h
  · clear hok
    go_enter Try.func12, Try.ntmps12
    go_wp2_with fail
    refine (refUsed_any _ _ _).mono ?_
    rintro e w1 ⟨rfl, hb⟩
    obtain ⟨⟨f1, f2⟩, ⟨f3, f4, f5, f6⟩, hz, hbw⟩ := mig_cells hb
    clear hb
    go_wp2
    refine bodyPost_ret (v := .tuple #[.agg #[.int .i64 0, .int .i64 0], .int .i64 1]) (by simp [results, Try.results12, go_sem, f3, f4]) rfl ⟨rfl, ?_⟩
    exact (hbw.setCell (by show w.heap.size ≤ w.heap.size + 1; omega) _).setCell (by show w.heap.size ≤ w.heap.size + 1; omega) _
  · rw [hu] at hok
    cases hl : Mig.limB c
    · clear hok
      go_enter Try.func12, Try.ntmps12
      go_wp2_with fail
      refine (refUsed_any _ _ _).mono ?_
      rintro e w1 ⟨rfl, hb⟩
      obtain ⟨⟨f1, f2⟩, ⟨f3, f4, f5, f6⟩, hz, hbw⟩ := mig_cells hb
      clear hb
      go_wp2_with fail
      refine (refLimit_any _ _).mono ?_
      rintro e w' ⟨rfl, rfl⟩
      go_wp2
      refine bodyPost_ret (v := .tuple #[.agg #[.int .i64 0, .int .i64 0], .int .i64 1]) (by simp [results, Try.results12, go_sem, f3, f4]) rfl ⟨rfl, ?_⟩
      exact (hbw.setCell (by show w.heap.size ≤ w.heap.size + 1; omega) _).setCell (by show w.heap.size ≤ w.heap.size + 1; omega) _
    · rw [hl] at hok
      have hd : Mig.limB d = false := by simpa using hok
      clear hok
      go_enter Try.func12, Try.ntmps12
      go_wp2_with fail
      refine (refUsed_any _ _ _).mono ?_
      rintro e w1 ⟨rfl, hb⟩
      obtain ⟨⟨f1, f2⟩, ⟨f3, f4, f5, f6⟩, hz, hbw⟩ := mig_cells hb
      clear hb
      go_wp2_with fail
      refine (refLimit_any _ _).mono ?_
      rintro e w' ⟨rfl, rfl⟩
      go_wp2_with fail
      refine (refLimit_any _ _).mono ?_
      rintro e w' ⟨rfl, rfl⟩
      go_wp2
      refine bodyPost_ret (v := .tuple #[.agg #[.int .i64 0, .int .i64 0], .int .i64 1]) (by simp [results, Try.results12, go_sem, f3, f4]) rfl ⟨rfl, ?_⟩
      exact (hbw.setCell (by show w.heap.size ≤ w.heap.size + 1; omega) _).setCell (by show w.heap.size ≤ w.heap.size + 1; omega) _


set_option maxHeartbeats 4000000 in
theorem refScale_ok (l h c d : Int) (hok : Mig.okB l h c d = true) (w : World) :
    Calls Try.prog 12 #[.agg #[.int .i64 l, .int .i64 h], .int .i64 c, .int .i64 d] w
      fun e w' => e = .returned (.tuple #[.agg #[.int .i64 (Mig.lo l h c d), .int .i64 (Mig.hi l h c d)], .int .i64 (Mig.err l h c d)]) ∧ Below w.heap.size w w' := by
  have HC : Hid ((1000000000000 < Mig.up h c d ∧ Mig.err l h c d = 7 ∧ Mig.lo l h c d = 0 ∧ Mig.hi l h c d = 0) ∨ (Mig.up h c d ≤ 1000000000000 ∧ Mig.err l h c d = 0 ∧ Mig.lo l h c d = Mig.down l c d ∧ Mig.hi l h c d = Mig.up h c d)) := Lib.hid (by
    rcases Mig.err_cases l h c d with ⟨h0, _⟩ | h1 | h1
    · rw [hok] at h0; cases h0
    · exact Or.inl h1.2
    · exact Or.inr h1.2)
  obtain ⟨⟨a1, a2, a3⟩, ⟨b1, b2⟩, ⟨c1, c2⟩⟩ := Mig.ok_iff.1 hok
  have hu : Mig.usedB l h = true := Mig.used_iff.2 ⟨a1, a2, a3⟩
  have hl : Mig.limB c = true := Mig.lim_iff.2 ⟨b1, b2⟩
  have hd : Mig.limB d = true := Mig.lim_iff.2 ⟨c1, c2⟩
  have hdu := Mig.down_le_up a2 b1 c1
  have hdn := Mig.down_nonneg (n := h) (by omega) b1 c1
  have hud := up_down_int (n := h) (by omega) b1 c1
  have hll := Mig.down_nonneg (n := l) (by omega) b1 c1
  have HD := Lib.hid (fun w => divide_life l c d ⟨a1, by omega⟩ ⟨b1, b2⟩ ⟨c1, c2⟩ w)
  have HU := Lib.hid (fun w => divide_life h c d ⟨by omega, a3⟩ ⟨b1, b2⟩ ⟨c1, c2⟩ w)
  clear hok
  obtain ⟨x, Hx⟩ : ∃ x, Hid (x = min (Mig.down l c d) 4000000000000) := ⟨_, Lib.hid rfl⟩
  obtain ⟨y, Hy⟩ : ∃ x, Hid (x = min (Mig.down h c d) 4000000000000) := ⟨_, Lib.hid rfl⟩
  obtain ⟨m1, Hm1⟩ : ∃ x, Hid (x = decide (Mig.up l c d ≠ Mig.down l c d)) := ⟨_, Lib.hid rfl⟩
  obtain ⟨m2, Hm2⟩ : ∃ x, Hid (x = decide (Mig.up h c d ≠ Mig.down h c d)) := ⟨_, Lib.hid rfl⟩
  rw [← Hx.out, ← Hm1.out] at HD
  rw [← Hy.out, ← Hm2.out] at HU
  have y0 : 0 ≤ y := by rw [Hy.out]; omega
  have y1 : y ≤ 4000000000000 := by rw [Hy.out]; omega
  obtain ⟨R, HR⟩ : ∃ r : Int × Int × Int, Hid (r = (Mig.lo l h c d, Mig.hi l h c d, Mig.err l h c d)) := ⟨_, Lib.hid rfl⟩
  have Hcase : Hid ((m2 = true ∧ ((1000000000000 < y + 1 ∧ R = (0, 0, 7)) ∨ (y + 1 ≤ 1000000000000 ∧ R = (x, y + 1, 0)))) ∨ (m2 = false ∧ ((1000000000000 < y ∧ R = (0, 0, 7)) ∨ (y ≤ 1000000000000 ∧ R = (x, y, 0))))) := Lib.hid (by
    have hc := HC.out
    rw [HR.out]
    cases m2
    · have e : Mig.up h c d = Mig.down h c d := by
        have h0 := Hm2.out
        have h1 := of_decide_eq_false h0.symm
        exact Classical.not_not.1 h1
      refine Or.inr ⟨rfl, ?_⟩
      rcases hc with ⟨k1, k2, k3, k4⟩ | ⟨k1, k2, k3, k4⟩
      · exact Or.inl ⟨by rw [Hy.out]; omega, by rw [k2, k3, k4]⟩
      · refine Or.inr ⟨by rw [Hy.out]; omega, ?_⟩
        rw [k2, k3, k4, Hx.out, Hy.out, show min (Mig.down l c d) 4000000000000 = Mig.down l c d by omega, show min (Mig.down h c d) 4000000000000 = Mig.up h c d by omega]
    · have e : Mig.up h c d = Mig.down h c d + 1 := by
        have h0 := Hm2.out
        have h1 := of_decide_eq_true h0.symm
        rcases hud with h2 | h2
        · exact absurd h2 h1
        · exact h2
      refine Or.inl ⟨rfl, ?_⟩
      rcases hc with ⟨k1, k2, k3, k4⟩ | ⟨k1, k2, k3, k4⟩
      · exact Or.inl ⟨by rw [Hy.out]; omega, by rw [k2, k3, k4]⟩
      · refine Or.inr ⟨by rw [Hy.out]; omega, ?_⟩
        rw [k2, k3, k4, Hx.out, Hy.out, show min (Mig.down l c d) 4000000000000 = Mig.down l c d by omega, show min (Mig.down h c d) 4000000000000 + 1 = Mig.up h c d by omega])
  have e0 : (Mig.lo l h c d, Mig.hi l h c d, Mig.err l h c d).1 = R.1 := by rw [HR.out]
  have e1 : (Mig.lo l h c d, Mig.hi l h c d, Mig.err l h c d).2.1 = R.2.1 := by rw [HR.out]
  have e2 : (Mig.lo l h c d, Mig.hi l h c d, Mig.err l h c d).2.2 = R.2.2 := by rw [HR.out]
  dsimp only at e0 e1 e2
  rw [e0, e1, e2]
  clear e0 e1 e2 hdu hdn hud hll HC HR
  rcases Hcase.out with ⟨rfl, ⟨k1, rfl⟩ | ⟨k1, rfl⟩⟩ | ⟨rfl, ⟨k1, rfl⟩ | ⟨k1, rfl⟩⟩
  all_goals
    clear Hcase
    dsimp only
    go_enter Try.func12, Try.ntmps12
    go_wp2_with fail
    refine (refUsed_any _ _ _).mono ?_
    rintro e w1 ⟨rfl, hb⟩
    obtain ⟨⟨f1, f2⟩, ⟨f3, f4, f5, f6⟩, hz, hbw⟩ := mig_cells hb
    clear hb
    go_wp2_with fail
    refine (refLimit_any _ _).mono ?_
    rintro e w' ⟨rfl, rfl⟩
    go_wp2_with fail
    refine (refLimit_any _ _).mono ?_
    rintro e w' ⟨rfl, rfl⟩
    go_wp2_with fail
    refine (HD.out _).mono ?_
    rintro e w2 ⟨rfl, rfl⟩
    go_wp2_with fail
    refine (HU.out _).mono ?_
    rintro e w2 ⟨rfl, rfl⟩
    go_wp2
    first
      | (refine bodyPost_ret (v := .tuple #[.agg #[.int .i64 0, .int .i64 0], .int .i64 7]) (by simp [results, Try.results12, go_sem, f3, f4]) rfl ⟨rfl, ?_⟩; done)
      | (refine bodyPost_ret (v := .tuple #[.agg #[.int .i64 0, .int .i64 0], .int .i64 7]) (by simp [results, Try.results12, go_sem, f3, f4]) rfl ⟨rfl, ?_⟩
         exact (hbw.setCell (by show w.heap.size ≤ w.heap.size + 1; omega) _).setCell (by show w.heap.size ≤ w.heap.size + 1; omega) _)
      | (refine bodyPost_ret (v := .tuple #[.agg #[.int .i64 x, .int .i64 (y + 1)], .int .i64 0]) (by simp [results, Try.results12, go_sem, f3, f4]) rfl ⟨rfl, ?_⟩
         exact (hbw.setCell (by show w.heap.size ≤ w.heap.size + 1; omega) _).setCell (by show w.heap.size ≤ w.heap.size + 1; omega) _)
      | (refine bodyPost_ret (v := .tuple #[.agg #[.int .i64 x, .int .i64 y], .int .i64 0]) (by simp [results, Try.results12, go_sem, f3, f4]) rfl ⟨rfl, ?_⟩
         exact (hbw.setCell (by show w.heap.size ≤ w.heap.size + 1; omega) _).setCell (by show w.heap.size ≤ w.heap.size + 1; omega) _)

theorem refScale_any (l h c d : Int) (w : World) :
    Calls Try.prog 12 #[.agg #[.int .i64 l, .int .i64 h], .int .i64 c, .int .i64 d] w
      fun e w' => e = .returned (.tuple #[.agg #[.int .i64 (Mig.lo l h c d), .int .i64 (Mig.hi l h c d)], .int .i64 (Mig.err l h c d)]) ∧ Below w.heap.size w w' := by
  cases hok : Mig.okB l h c d
  · have hc := Mig.err_cases l h c d
    rw [hok] at hc
    simp only [Bool.false_eq_true, false_and, or_false, true_and] at hc
    rw [hc.1, hc.2.1, hc.2.2]
    exact refScale_bad l h c d hok w
  · exact refScale_ok l h c d hok w

set_option maxHeartbeats 2000000 in
theorem refLeft_bad (l h c : Int) (hok : Mig.leftOk l h c = false) (w : World) :
    Calls Try.prog 16 #[.agg #[.int .i64 l, .int .i64 h], .int .i64 c] w
      fun e w' => e = .returned (.tuple #[.agg #[.int .i64 0, .int .i64 0], .int .i64 1]) ∧ Below w.heap.size w w' := by
  unfold Mig.leftOk at hok
  cases hu : Mig.usedB l h
  · clear hok
    go_enter Try.func16, Try.ntmps16
    go_wp2_with fail
    refine (refUsed_any _ _ _).mono ?_
    rintro e w1 ⟨rfl, hb⟩
    obtain ⟨⟨f1, f2⟩, ⟨f3, f4, f5, f6⟩, hz, hbw⟩ := mig_cells hb
    clear hb
    go_wp2
    refine bodyPost_ret (v := .tuple #[.agg #[.int .i64 0, .int .i64 0], .int .i64 1]) (by simp [results, Try.results16, go_sem, f3, f4]) rfl ⟨rfl, ?_⟩
    exact (hbw.setCell (by show w.heap.size ≤ w.heap.size + 1; omega) _).setCell (by show w.heap.size ≤ w.heap.size + 1; omega) _
  · rw [hu] at hok
    have hl : Mig.limB c = false := by simpa using hok
    clear hok
    go_enter Try.func16, Try.ntmps16
    go_wp2_with fail
    refine (refUsed_any _ _ _).mono ?_
    rintro e w1 ⟨rfl, hb⟩
    obtain ⟨⟨f1, f2⟩, ⟨f3, f4, f5, f6⟩, hz, hbw⟩ := mig_cells hb
    clear hb
    go_wp2_with fail
    refine (refLimit_any _ _).mono ?_
    rintro e w' ⟨rfl, rfl⟩
    go_wp2
    refine bodyPost_ret (v := .tuple #[.agg #[.int .i64 0, .int .i64 0], .int .i64 1]) (by simp [results, Try.results16, go_sem, f3, f4]) rfl ⟨rfl, ?_⟩
    exact (hbw.setCell (by show w.heap.size ≤ w.heap.size + 1; omega) _).setCell (by show w.heap.size ≤ w.heap.size + 1; omega) _

set_option maxHeartbeats 2000000 in
theorem refLeft_ok (l h c : Int) (hok : Mig.leftOk l h c = true) (w : World) :
    Calls Try.prog 16 #[.agg #[.int .i64 l, .int .i64 h], .int .i64 c] w
      fun e w' => e = .returned (.tuple #[.agg #[.int .i64 (Mig.left h c), .int .i64 (Mig.left l c)], .int .i64 0]) ∧ Below w.heap.size w w' := by
  obtain ⟨⟨a1, a2, a3⟩, ⟨b1, b2⟩⟩ := Mig.leftOk_iff.1 hok
  have hu : Mig.usedB l h = true := Mig.used_iff.2 ⟨a1, a2, a3⟩
  have hl : Mig.limB c = true := Mig.lim_iff.2 ⟨b1, b2⟩
  have Hh := Lib.hid (Mig.left_cases h c)
  have Hl := Lib.hid (Mig.left_cases l c)
  clear hok
  obtain ⟨x, Hx⟩ : ∃ x, Hid (x = Mig.left h c) := ⟨_, Lib.hid rfl⟩
  obtain ⟨y, Hy⟩ : ∃ x, Hid (x = Mig.left l c) := ⟨_, Lib.hid rfl⟩
  rw [← Hx.out] at Hh ⊢
  rw [← Hy.out] at Hl ⊢
  go_enter Try.func16, Try.ntmps16
  go_wp2_with fail
  refine (refUsed_any _ _ _).mono ?_
  rintro e w1 ⟨rfl, hb⟩
  obtain ⟨⟨f1, f2⟩, ⟨f3, f4, f5, f6⟩, hz, hbw⟩ := mig_cells hb
  clear hb
  go_wp2_with fail
  refine (refLimit_any _ _).mono ?_
  rintro e w' ⟨rfl, rfl⟩
  have Ex : Hid (max 0 (c - h) = x) := Lib.hid (by have := Hh.out; omega)
  have Ey : Hid (max 0 (c - l) = y) := Lib.hid (by have := Hl.out; omega)
  go_wp2
  · rw [Ex.out, Ey.out]
    refine bodyPost_ret (v := .tuple #[.agg #[.int .i64 x, .int .i64 y], .int .i64 0]) (by simp [results, Try.results16, go_sem, f3, f4]) rfl ⟨rfl, ?_⟩
    exact (hbw.setCell (by show w.heap.size ≤ w.heap.size + 1; omega) _).setCell (by show w.heap.size ≤ w.heap.size + 1; omega) _

theorem refLeft_any (l h c : Int) (w : World) :
    Calls Try.prog 16 #[.agg #[.int .i64 l, .int .i64 h], .int .i64 c] w
      fun e w' => e = .returned (.tuple #[.agg #[.int .i64 (Mig.leftLo l h c), .int .i64 (Mig.leftHi l h c)], .int .i64 (Mig.leftErr l h c)]) ∧ Below w.heap.size w w' := by
  have e : Mig.leftErr l h c = if Mig.leftOk l h c then 0 else 1 := rfl
  unfold Mig.leftLo Mig.leftHi
  rw [e]
  cases hok : Mig.leftOk l h c
  · exact refLeft_bad l h c hok w
  · exact refLeft_ok l h c hok w

end Go.Proofs.Ytbiibpjjjjedgaa
