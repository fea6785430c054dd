/- The walks of the reference implementation of intervals: saturating. -/
import Derived.Test.YtijnnfioggjaeaaIvlWalksE
namespace Go.Proofs.Ytijnnfioggjaeaa
open Go.RowKit

set_option maxHeartbeats 1000000 in
theorem refSat_any (n : Int) (w : World) :
    Calls Try.prog 11 #[.int .i64 n] w fun e w' => e = .returned (.int .i64 (Ivl.sat n)) ∧ w = w' := by
  have hc := Ivl.sat_cases n
  go_enter Try.func11, Try.ntmps11
  go_wp2
  all_goals
    go_ret
    exact ⟨ret_int (by first | omega | (dsimp only; omega) | (simp; omega)), rfl⟩

set_option maxHeartbeats 1000000 in
theorem refValid_any (l h : Int) (w : World) :
    Calls Try.prog 6 #[.agg #[.int .i64 l, .int .i64 h]] w fun e w' => e = .returned (.bool (Ivl.validB l h)) ∧ Below w.heap.size w w' := by
  by_cases h1 : l ≤ h
  · by_cases h2 : -1000000000000 ≤ l
    · by_cases h3 : h ≤ 1000000000000
      all_goals
        go_enter Try.func6, Try.ntmps6
        go_wp2
        go_ret
        exact ⟨ret_bool (by first | exact (Ivl.validB_true ⟨h1, h2, h3⟩).symm | exact (Ivl.validB_false (by omega)).symm), (Below.refl _ _).alloc (Nat.le_refl _) _⟩
    · go_enter Try.func6, Try.ntmps6
      go_wp2
      go_ret
      exact ⟨ret_bool (Ivl.validB_false (by omega)).symm, (Below.refl _ _).alloc (Nat.le_refl _) _⟩
  · go_enter Try.func6, Try.ntmps6
    go_wp2
    go_ret
    exact ⟨ret_bool (Ivl.validB_false (by omega)).symm, (Below.refl _ _).alloc (Nat.le_refl _) _⟩

set_option maxHeartbeats 2000000 in
theorem refTimes_11 (x y : Int) (x0 : 1 ≤ x) (y0 : 1 ≤ y) (x1 : x ≤ 1000000000000) (y1 : y ≤ 1000000000000) (w : World) :
    Calls Try.prog 12 #[.int .i64 (-x), .int .i64 (-y)] w fun e w' => e = .returned (.int .i64 (Ivl.times (-x) (-y))) ∧ w = w' := by
  have ea : Ivl.abs (-x) = x := by have := Ivl.abs_cases (-x); omega
  have eb : Ivl.abs (-y) = y := by have := Ivl.abs_cases (-y); omega
  have za : (x == 0) = false := beq_eq_false_iff_ne.2 (by omega)
  have zb : (y == 0) = false := beq_eq_false_iff_ne.2 (by omega)
  have za' : (-x == 0) = false := beq_eq_false_iff_ne.2 (by omega)
  have zb' : (-y == 0) = false := beq_eq_false_iff_ne.2 (by omega)
  have b0 : (-y) ≠ 0 := by omega
  have hs1 : (decide (-x < 0) == decide (-y < 0)) = true := by rw [decide_eq_true (show -x < 0 by omega), decide_eq_true (show -y < 0 by omega)]; rfl
  have hs2 : (decide (-x < 0) == decide (0 < y)) = true := by rw [decide_eq_true (show -x < 0 by omega), decide_eq_true (show 0 < y by omega)]; rfl
  have hs3 : (decide (0 < x) == decide (-y < 0)) = true := by rw [decide_eq_true (show 0 < x by omega), decide_eq_true (show -y < 0 by omega)]; rfl
  have hs4 : (decide (0 < x) == decide (0 < y)) = true := by rw [decide_eq_true (show 0 < x by omega), decide_eq_true (show 0 < y by omega)]; rfl
  have p0 : 0 ≤ x * y := Int.mul_nonneg (by omega) (by omega)
  by_cases hx : x ≤ 1000000000000 / y
  · obtain ⟨ht, p1, p2⟩ := Ivl.times_small (n := (-x)) (m := (-y)) b0 (by rw [ea, eb]; exact hx)
    have e1 : (-x) * (-y) = x * y := Int.neg_mul_neg x y
    rw [e1] at ht p1 p2
    have p3 : x * y ≤ 1000000000000 := by omega
    have Ht := Lib.hid ht
    clear ht e1 ea eb b0 p1 p2
    go_enter Try.func12, Try.ntmps12
    go_wp2
    all_goals
      go_ret
      exact ⟨ret_int Ht.out.symm, rfl⟩
  · have Ht := Lib.hid (Ivl.times_same (n := (-x)) (m := (-y)) b0 (by rw [ea, eb]; exact hx) (by omega))
    clear ea eb b0 p0
    go_enter Try.func12, Try.ntmps12
    go_wp2
    all_goals
      go_ret
      exact ⟨ret_int Ht.out.symm, rfl⟩

set_option maxHeartbeats 2000000 in
theorem refTimes_10 (x y : Int) (x0 : 1 ≤ x) (y0 : 1 ≤ y) (x1 : x ≤ 1000000000000) (y1 : y ≤ 1000000000000) (w : World) :
    Calls Try.prog 12 #[.int .i64 (-x), .int .i64 y] w fun e w' => e = .returned (.int .i64 (Ivl.times (-x) y)) ∧ w = w' := by
  have ea : Ivl.abs (-x) = x := by have := Ivl.abs_cases (-x); omega
  have eb : Ivl.abs y = y := by have := Ivl.abs_cases y; omega
  have za : (x == 0) = false := beq_eq_false_iff_ne.2 (by omega)
  have zb : (y == 0) = false := beq_eq_false_iff_ne.2 (by omega)
  have za' : (-x == 0) = false := beq_eq_false_iff_ne.2 (by omega)
  have b0 : y ≠ 0 := by omega
  have hs1 : (decide (-x < 0) == decide (y < 0)) = false := by rw [decide_eq_true (show -x < 0 by omega), decide_eq_false (show ¬ y < 0 by omega)]; rfl
  have hs2 : (decide (0 < x) == decide (y < 0)) = false := by rw [decide_eq_true (show 0 < x by omega), decide_eq_false (show ¬ y < 0 by omega)]; rfl
  have p0 : 0 ≤ x * y := Int.mul_nonneg (by omega) (by omega)
  by_cases hx : x ≤ 1000000000000 / y
  · obtain ⟨ht, p1, p2⟩ := Ivl.times_small (n := (-x)) (m := y) b0 (by rw [ea, eb]; exact hx)
    have e1 : (-x) * y = -(x * y) := Int.neg_mul x y
    rw [e1] at ht p1 p2
    have p3 : x * y ≤ 1000000000000 := by omega
    have Ht := Lib.hid ht
    clear ht e1 ea eb b0 p1 p2
    go_enter Try.func12, Try.ntmps12
    go_wp2
    all_goals
      go_ret
      exact ⟨ret_int Ht.out.symm, rfl⟩
  · have Ht := Lib.hid (Ivl.times_other (n := (-x)) (m := y) b0 (by rw [ea, eb]; exact hx) (by omega))
    clear ea eb b0 p0
    go_enter Try.func12, Try.ntmps12
    go_wp2
    all_goals
      go_ret
      exact ⟨ret_int Ht.out.symm, rfl⟩

set_option maxHeartbeats 2000000 in
theorem refTimes_01 (x y : Int) (x0 : 1 ≤ x) (y0 : 1 ≤ y) (x1 : x ≤ 1000000000000) (y1 : y ≤ 1000000000000) (w : World) :
    Calls Try.prog 12 #[.int .i64 x, .int .i64 (-y)] w fun e w' => e = .returned (.int .i64 (Ivl.times x (-y))) ∧ w = w' := by
  have ea : Ivl.abs x = x := by have := Ivl.abs_cases x; omega
  have eb : Ivl.abs (-y) = y := by have := Ivl.abs_cases (-y); omega
  have za : (x == 0) = false := beq_eq_false_iff_ne.2 (by omega)
  have zb : (y == 0) = false := beq_eq_false_iff_ne.2 (by omega)
  have zb' : (-y == 0) = false := beq_eq_false_iff_ne.2 (by omega)
  have b0 : (-y) ≠ 0 := by omega
  have hs1 : (decide (x < 0) == decide (-y < 0)) = false := by rw [decide_eq_false (show ¬ x < 0 by omega), decide_eq_true (show -y < 0 by omega)]; rfl
  have hs2 : (decide (x < 0) == decide (0 < y)) = false := by rw [decide_eq_false (show ¬ x < 0 by omega), decide_eq_true (show 0 < y by omega)]; rfl
  have p0 : 0 ≤ x * y := Int.mul_nonneg (by omega) (by omega)
  by_cases hx : x ≤ 1000000000000 / y
  · obtain ⟨ht, p1, p2⟩ := Ivl.times_small (n := x) (m := (-y)) b0 (by rw [ea, eb]; exact hx)
    have e1 : x * (-y) = -(x * y) := Int.mul_neg x y
    rw [e1] at ht p1 p2
    have p3 : x * y ≤ 1000000000000 := by omega
    have Ht := Lib.hid ht
    clear ht e1 ea eb b0 p1 p2
    go_enter Try.func12, Try.ntmps12
    go_wp2
    all_goals
      go_ret
      exact ⟨ret_int Ht.out.symm, rfl⟩
  · have Ht := Lib.hid (Ivl.times_other (n := x) (m := (-y)) b0 (by rw [ea, eb]; exact hx) (by omega))
    clear ea eb b0 p0
    go_enter Try.func12, Try.ntmps12
    go_wp2
    all_goals
      go_ret
      exact ⟨ret_int Ht.out.symm, rfl⟩

set_option maxHeartbeats 2000000 in
theorem refTimes_00 (x y : Int) (x0 : 1 ≤ x) (y0 : 1 ≤ y) (x1 : x ≤ 1000000000000) (y1 : y ≤ 1000000000000) (w : World) :
    Calls Try.prog 12 #[.int .i64 x, .int .i64 y] w fun e w' => e = .returned (.int .i64 (Ivl.times x y)) ∧ w = w' := by
  have ea : Ivl.abs x = x := by have := Ivl.abs_cases x; omega
  have eb : Ivl.abs y = y := by have := Ivl.abs_cases y; omega
  have za : (x == 0) = false := beq_eq_false_iff_ne.2 (by omega)
  have zb : (y == 0) = false := beq_eq_false_iff_ne.2 (by omega)
  have b0 : y ≠ 0 := by omega
  have hs1 : (decide (x < 0) == decide (y < 0)) = true := by rw [decide_eq_false (show ¬ x < 0 by omega), decide_eq_false (show ¬ y < 0 by omega)]; rfl
  have p0 : 0 ≤ x * y := Int.mul_nonneg (by omega) (by omega)
  by_cases hx : x ≤ 1000000000000 / y
  · obtain ⟨ht, p1, p2⟩ := Ivl.times_small (n := x) (m := y) b0 (by rw [ea, eb]; exact hx)
    have e1 : x * y = x * y := rfl
    rw [e1] at ht p1 p2
    have p3 : x * y ≤ 1000000000000 := by omega
    have Ht := Lib.hid ht
    clear ht e1 ea eb b0 p1 p2
    go_enter Try.func12, Try.ntmps12
    go_wp2
    all_goals
      go_ret
      exact ⟨ret_int Ht.out.symm, rfl⟩
  · have Ht := Lib.hid (Ivl.times_same (n := x) (m := y) b0 (by rw [ea, eb]; exact hx) (by omega))
    clear ea eb b0 p0
    go_enter Try.func12, Try.ntmps12
    go_wp2
    all_goals
      go_ret
      exact ⟨ret_int Ht.out.symm, rfl⟩

set_option maxHeartbeats 1000000 in
theorem refTimes_0 (a b : Int) (h : a = 0 ∨ b = 0) (w : World) :
    Calls Try.prog 12 #[.int .i64 a, .int .i64 b] w fun e w' => e = .returned (.int .i64 (Ivl.times a b)) ∧ w = w' := by
  have Ht := Lib.hid (Ivl.times_zero h)
  by_cases ha : a = 0
  · have za : (a == 0) = true := by simp [ha]
    clear h ha
    go_enter Try.func12, Try.ntmps12
    go_wp2
    go_ret
    exact ⟨ret_int Ht.out.symm, rfl⟩
  · have za : (a == 0) = false := beq_eq_false_iff_ne.2 ha
    have zb : (b == 0) = true := by rcases h with h | h; exact absurd h ha; simp [h]
    clear h ha
    go_enter Try.func12, Try.ntmps12
    go_wp2
    go_ret
    exact ⟨ret_int Ht.out.symm, rfl⟩
theorem refTimes_any (a b : Int) (a1 : -1000000000000 ≤ a ∧ a ≤ 1000000000000) (b1 : -1000000000000 ≤ b ∧ b ≤ 1000000000000) (w : World) :
    Calls Try.prog 12 #[.int .i64 a, .int .i64 b] w fun e w' => e = .returned (.int .i64 (Ivl.times a b)) ∧ w = w' := by
  by_cases ha : a = 0
  · exact refTimes_0 a b (Or.inl ha) w
  · by_cases hb : b = 0
    · exact refTimes_0 a b (Or.inr hb) w
    · by_cases h1 : a < 0 <;> by_cases h2 : b < 0
      · have := refTimes_11 (-a) (-b) (by omega) (by omega) (by omega) (by omega) w; rwa [Int.neg_neg, Int.neg_neg] at this
      · have := refTimes_10 (-a) b (by omega) (by omega) (by omega) (by omega) w; rwa [Int.neg_neg] at this
      · have := refTimes_01 a (-b) (by omega) (by omega) (by omega) (by omega) w; rwa [Int.neg_neg] at this
      · exact refTimes_00 a b (by omega) (by omega) (by omega) (by omega) w

end Go.Proofs.Ytijnnfioggjaeaa
