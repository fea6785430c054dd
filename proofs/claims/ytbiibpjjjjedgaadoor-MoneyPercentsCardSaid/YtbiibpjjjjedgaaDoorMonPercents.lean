/- The statement on percentages: its walk. -/
import Derived.Test.YtbiibpjjjjedgaaDoorMonPercMain
namespace Go.Proofs.YtbiibpjjjjedgaaDoor
open Go.RowKit

set_option maxRecDepth 100000 in
set_option maxHeartbeats 4000000 in
theorem lawPercents_no (n o p m : Int) (h : ¬ ((0 ≤ n ∧ n ≤ 1000000000000) ∧ 0 ≤ p ∧ p ≤ 100)) (w : World) (ht : Tab w) :
    Calls Tryd.prog 6 #[.int .i64 n, .int .i64 o, .int .i64 p, .int .i64 m] w fun e w' => e = .returned (.bool true) ∧ Below w.heap.size w w' := by
  have hb : Mon.pctB n p = false := by
    cases hb : Mon.pctB n p
    · rfl
    · exact absurd (Mon.pct_iff.1 hb) h
  have HP := Lib.hid (fun W => percent_any n p W)
  rw [hb, if_neg (by simp), if_neg (by simp)] at HP
  have HH := Lib.hid (head03_any w ht)
  have hc : n < 0 ∨ 0 ≤ n ∧ (1000000000000 < n ∨ n ≤ 1000000000000 ∧ (p < 0 ∨ 0 ≤ p ∧ 100 < p)) := by omega
  clear h hb ht
  rcases hc with h1 | ⟨h1, h2 | ⟨h2, h3 | ⟨h3, h4⟩⟩⟩
  all_goals
    go_enter Tryd.func6, Tryd.ntmps6
    go_wp2_with fail
    refine HH.out.mono ?_
    rintro e v1 ⟨rfl, hb⟩
    go_wp2_with fail
    refine (HP.out _).mono ?_
    rintro e _ ⟨rfl, rfl⟩
    go_wp2
    go_ret
    exact ⟨rfl, hb⟩

theorem lawPercents_any (n o p m : Int) (w : World) (ht : Tab w) :
    Calls Tryd.prog 6 #[.int .i64 n, .int .i64 o, .int .i64 p, .int .i64 m] w fun e w' => e = .returned (.bool true) ∧ Below w.heap.size w w' := by
  by_cases h : ¬ ((0 ≤ n ∧ n ≤ 1000000000000) ∧ 0 ≤ p ∧ p ≤ 100)
  · exact lawPercents_no n o p m h w ht
  replace h := Decidable.not_not.1 h
  obtain ⟨⟨n1, n2⟩, p1, p2⟩ := h
  have good : ∀ q, 0 ≤ q → q ≤ 100 → ∀ W, Calls Tryd.prog 11 #[.int .i64 n, .int .i64 q] W fun e w' => e = .returned (.tuple #[.int .i64 (Mon.half (n * q)), .int .i64 0]) ∧ W = w' := by
    intro q q1 q2 W
    have := percent_any n q W
    rw [Mon.pct_iff.2 ⟨⟨n1, n2⟩, q1, q2⟩, if_pos rfl, if_pos rfl] at this
    exact this
  have ex : n * (100 - p) = n * 100 - n * p := Int.mul_sub n 100 p
  have hx0 : 0 ≤ n * p := Int.mul_nonneg n1 p1
  have hx1 : n * p ≤ n * 100 := Int.mul_le_mul_of_nonneg_left p2 n1
  have k1 := Mon.half_near (n * p)
  have k2 := Mon.half_near (n * (100 - p))
  have HN := good 0 (by omega) (by omega)
  have HA := good 100 (by omega) (by omega)
  rw [Int.mul_zero, show Mon.half 0 = 0 by decide] at HN
  rw [Mon.half_whole] at HA
  have m1 : ∀ y, 0 ≤ y → 0 ≤ Mon.half y := fun y hy => by have := Mon.half_mono hy; rwa [show Mon.half 0 = 0 by decide] at this
  have m2 : ∀ y, y ≤ n * 100 → Mon.half y ≤ n := fun y hy => by have := Mon.half_mono hy; rwa [Mon.half_whole] at this
  refine lawPercents_main n o p m (Mon.half (n * p)) (Mon.half (n * (100 - p))) (if Mon.pctB o p then Mon.pct o p else 0) (if Mon.pctB n m then Mon.pct n m else 0) (if Mon.pctB o p then 0 else 1) (if Mon.pctB n m then 0 else 1)
    ⟨n1, n2⟩ ⟨p1, p2⟩ (n * p) rfl ⟨hx0, by omega⟩ w (Lib.hid (head03_any w ht)) (Lib.hid (good p p1 p2)) (Lib.hid (good (100 - p) (by omega) (by omega))) (Lib.hid HN) (Lib.hid HA) (Lib.hid fun W => percent_any o p W) (Lib.hid fun W => percent_any n m W) k1 ?_
    ⟨m1 _ hx0, m2 _ hx1⟩ ⟨m1 _ (by omega), m2 _ (by omega)⟩ ?_ ?_
  · generalize n * p = x at *
    generalize n * (100 - p) = y at *
    omega
  · cases hb : Mon.pctB o p
    · exact Or.inl rfl
    · rw [if_pos rfl, if_pos rfl, Mon.pct_half]
      exact Mon.cmp_cases _ _ _ _ (fun h => Mon.half_mono (Int.mul_le_mul_of_nonneg_right h p1)) (fun h => Mon.half_mono (Int.mul_le_mul_of_nonneg_right h p1)) 0 (Or.inl rfl)
  · cases hb : Mon.pctB n m
    · exact Or.inl rfl
    · rw [if_pos rfl, if_pos rfl, Mon.pct_half]
      exact Mon.cmp_cases _ _ _ _ (fun h => Mon.half_mono (Int.mul_le_mul_of_nonneg_left h n1)) (fun h => Mon.half_mono (Int.mul_le_mul_of_nonneg_left h n1)) 0 (Or.inl rfl)

end Go.Proofs.YtbiibpjjjjedgaaDoor
