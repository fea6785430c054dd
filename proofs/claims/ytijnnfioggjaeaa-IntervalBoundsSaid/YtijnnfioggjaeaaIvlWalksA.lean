/- The walks of package interval: validity, saturating, the hull. -/
import Derived.Test.YtijnnfioggjaeaaBase
import Derived.Test.YtijnnfioggjaeaaIvlMath
namespace Go.Proofs.Ytijnnfioggjaeaa
open Go.RowKit

set_option maxHeartbeats 1000000 in
theorem valid_any (l h : Int) (w : World) :
    Calls Try.prog 5 #[.agg #[.int .i64 l, .int .i64 h]] w fun e w' => e = .returned (.bool (Ivl.validB l h)) ∧ Below w.heap.size w w' := by
  by_cases h1 : l ≤ h
  · by_cases h2 : -1000000000000 ≤ l
    · by_cases h3 : h ≤ 1000000000000
      all_goals
        go_enter Try.func5, Try.ntmps5
        go_wp2
        go_ret
        exact ⟨ret_bool (by first | exact (Ivl.validB_true ⟨h1, h2, h3⟩).symm | exact (Ivl.validB_false (by omega)).symm), (Below.refl _ _).alloc (Nat.le_refl _) _⟩
    · go_enter Try.func5, Try.ntmps5
      go_wp2
      go_ret
      exact ⟨ret_bool (Ivl.validB_false (by omega)).symm, (Below.refl _ _).alloc (Nat.le_refl _) _⟩
  · go_enter Try.func5, Try.ntmps5
    go_wp2
    go_ret
    exact ⟨ret_bool (Ivl.validB_false (by omega)).symm, (Below.refl _ _).alloc (Nat.le_refl _) _⟩

set_option maxHeartbeats 1000000 in
theorem saturated_any (n : Int) (w : World) :
    Calls Try.prog 24 #[.int .i64 n] w fun e w' => e = .returned (.int .i64 (Ivl.sat n)) ∧ w = w' := by
  have hc := Ivl.sat_cases n
  go_enter Try.func24, Try.ntmps24
  go_wp2
  all_goals
    go_ret
    exact ⟨ret_int (by first | omega | (dsimp only; omega) | (simp; omega)), rfl⟩
set_option maxHeartbeats 1000000 in
theorem absolute_any (n : Int) (hn : -1000000000000 ≤ n ∧ n ≤ 1000000000000) (w : World) :
    Calls Try.prog 25 #[.int .i64 n] w fun e w' => e = .returned (.int .i64 (Ivl.abs n)) ∧ w = w' := by
  have hc := Ivl.abs_cases n
  obtain ⟨hn1, hn2⟩ := hn
  go_enter Try.func25, Try.ntmps25
  go_wp2
  all_goals
    go_ret
    exact ⟨ret_int (by first | omega | (dsimp only; omega) | (simp; omega)), rfl⟩

set_option maxHeartbeats 1000000 in
theorem plus_any (n m : Int) (hn : -1000000000000 ≤ n ∧ n ≤ 1000000000000) (hm : -1000000000000 ≤ m ∧ m ≤ 1000000000000) (w : World) :
    Calls Try.prog 18 #[.int .i64 n, .int .i64 m] w fun e w' => e = .returned (.int .i64 (Ivl.plus n m)) ∧ w = w' := by
  obtain ⟨hn1, hn2⟩ := hn
  obtain ⟨hm1, hm2⟩ := hm
  go_enter Try.func18, Try.ntmps18
  go_wp2_with (go_at_call 24; refine (saturated_any _ _).mono ?_; rintro e w' ⟨rfl, rfl⟩)
  go_ret
  exact ⟨rfl, rfl⟩
set_option maxHeartbeats 1000000 in
theorem minus_any (n m : Int) (hn : -1000000000000 ≤ n ∧ n ≤ 1000000000000) (hm : -1000000000000 ≤ m ∧ m ≤ 1000000000000) (w : World) :
    Calls Try.prog 19 #[.int .i64 n, .int .i64 m] w fun e w' => e = .returned (.int .i64 (Ivl.minus n m)) ∧ w = w' := by
  obtain ⟨hn1, hn2⟩ := hn
  obtain ⟨hm1, hm2⟩ := hm
  go_enter Try.func19, Try.ntmps19
  go_wp2_with (go_at_call 24; refine (saturated_any _ _).mono ?_; rintro e w' ⟨rfl, rfl⟩)
  go_ret
  exact ⟨rfl, rfl⟩

set_option maxHeartbeats 2000000 in
theorem times_any (n m : Int) (hn : -1000000000000 ≤ n ∧ n ≤ 1000000000000) (hm : -1000000000000 ≤ m ∧ m ≤ 1000000000000) (w : World) :
    Calls Try.prog 20 #[.int .i64 n, .int .i64 m] w fun e w' => e = .returned (.int .i64 (Ivl.times n m)) ∧ w = w' := by
  by_cases h1 : n = 0
  · have hz := Ivl.times_zero (n := n) (m := m) (Or.inl h1)
    have Hz := Lib.hid hz
    clear hz
    have h1' : (n == 0) = true := by simp [h1]
    go_enter Try.func20, Try.ntmps20
    go_wp2
    go_ret
    exact ⟨ret_int Hz.out.symm, rfl⟩
  · have h1' : (n == 0) = false := by simp [h1]
    by_cases h2 : m = 0
    · have hz := Ivl.times_zero (n := n) (m := m) (Or.inr h2)
      have Hz := Lib.hid hz
      clear hz
      have h2' : (m == 0) = true := by simp [h2]
      clear h2
      go_enter Try.func20, Try.ntmps20
      go_wp2
      go_ret
      exact ⟨ret_int Hz.out.symm, rfl⟩
    · have h2' : (m == 0) = false := by simp [h2]
      have hp : 1 ≤ Ivl.abs m := by have := Ivl.abs_cases m; omega
      by_cases h3 : Ivl.abs n ≤ 1000000000000 / Ivl.abs m
      · obtain ⟨ht, hb1, hb2⟩ := Ivl.times_small h2 h3
        have Ht := Lib.hid ht
        clear ht
        go_enter Try.func20, Try.ntmps20
        go_wp2_with (go_at_call 25; refine (absolute_any _ (by omega) _).mono ?_; rintro e w' ⟨rfl, rfl⟩)
        go_ret
        exact ⟨ret_int Ht.out.symm, rfl⟩
      · by_cases h4 : n < 0 <;> by_cases h5 : m < 0
        · have Ht := Lib.hid (Ivl.times_same h2 h3 ⟨fun _ => h5, fun _ => h4⟩)
          have hs : (decide (n < 0) == decide (m < 0)) = true := by simp [h4, h5]
          go_enter Try.func20, Try.ntmps20
          go_wp2_with (go_at_call 25; refine (absolute_any _ (by omega) _).mono ?_; rintro e w' ⟨rfl, rfl⟩)
          go_ret
          exact ⟨ret_int Ht.out.symm, rfl⟩
        · have Ht := Lib.hid (Ivl.times_other h2 h3 (fun h => h5 (h.1 h4)))
          have hs : (decide (n < 0) == decide (m < 0)) = false := by simp [h4, h5]
          go_enter Try.func20, Try.ntmps20
          go_wp2_with (go_at_call 25; refine (absolute_any _ (by omega) _).mono ?_; rintro e w' ⟨rfl, rfl⟩)
          go_ret
          exact ⟨ret_int Ht.out.symm, rfl⟩
        · have Ht := Lib.hid (Ivl.times_other h2 h3 (fun h => h4 (h.2 h5)))
          have hs : (decide (n < 0) == decide (m < 0)) = false := by simp [h4, h5]
          go_enter Try.func20, Try.ntmps20
          go_wp2_with (go_at_call 25; refine (absolute_any _ (by omega) _).mono ?_; rintro e w' ⟨rfl, rfl⟩)
          go_ret
          exact ⟨ret_int Ht.out.symm, rfl⟩
        · have Ht := Lib.hid (Ivl.times_same h2 h3 ⟨fun h => absurd h h4, fun h => absurd h h5⟩)
          have hs : (decide (n < 0) == decide (m < 0)) = true := by simp [h4, h5]
          go_enter Try.func20, Try.ntmps20
          go_wp2_with (go_at_call 25; refine (absolute_any _ (by omega) _).mono ?_; rintro e w' ⟨rfl, rfl⟩)
          go_ret
          exact ⟨ret_int Ht.out.symm, rfl⟩

end Go.Proofs.Ytijnnfioggjaeaa
