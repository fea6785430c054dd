/- The walks of package interval: joining, comparing, three-valued logic. -/
import Derived.Test.YtijnnfioggjaeaaIvlWalksC
namespace Go.Proofs.Ytijnnfioggjaeaa
open Go.RowKit

set_option maxHeartbeats 1000000 in
theorem known_any (a : Int) (w : World) :
    Calls Try.prog 22 #[.int .i64 a] w fun e w' => e = .returned (.int .i64 (Ivl.known a)) ∧ w = w' := by
  have hc := Ivl.known_cases a
  by_cases h0 : a = 0
  · have h0' : (a != 0) = false := by simp [h0]
    go_enter Try.func22, Try.ntmps22
    go_wp2
    go_ret
    exact ⟨ret_int (by omega), rfl⟩
  · have h0' : (a != 0) = true := by simp [h0]
    by_cases h2 : a = 2
    · have h2' : (a != 2) = false := by simp [h2]
      clear h2
      go_enter Try.func22, Try.ntmps22
      go_wp2
      go_ret
      exact ⟨ret_int (by simp at h2'; omega), rfl⟩
    · have h2' : (a != 2) = true := by simp [h2]
      go_enter Try.func22, Try.ntmps22
      go_wp2
      go_ret
      exact ⟨ret_int (by omega), rfl⟩
theorem known_bd (a : Int) : 0 ≤ Ivl.known a ∧ Ivl.known a ≤ 2 := by have := Ivl.known_cases a; omega
set_option maxHeartbeats 1000000 in
theorem and_any (a b : Int) (w : World) :
    Calls Try.prog 15 #[.int .i64 a, .int .i64 b] w fun e w' => e = .returned (.int .i64 (Ivl.andT a b)) ∧ w = w' := by
  have hm := Ivl.imin_cases (Ivl.known a) (Ivl.known b)
  have Hm := Lib.hid hm
  clear hm
  go_enter Try.func15, Try.ntmps15
  go_wp2_with (go_at_call 22; refine (known_any _ _).mono ?_; rintro e w' ⟨rfl, rfl⟩)
  all_goals
    go_ret
    exact ⟨ret_int (by have := Hm.out; unfold Ivl.andT; first | omega | (dsimp only; omega)), rfl⟩
set_option maxHeartbeats 1000000 in
theorem or_any (a b : Int) (w : World) :
    Calls Try.prog 16 #[.int .i64 a, .int .i64 b] w fun e w' => e = .returned (.int .i64 (Ivl.orT a b)) ∧ w = w' := by
  have hm := Ivl.imax_cases (Ivl.known a) (Ivl.known b)
  have Hm := Lib.hid hm
  clear hm
  go_enter Try.func16, Try.ntmps16
  go_wp2_with (go_at_call 22; refine (known_any _ _).mono ?_; rintro e w' ⟨rfl, rfl⟩)
  all_goals
    go_ret
    exact ⟨ret_int (by have := Hm.out; unfold Ivl.orT; first | omega | (dsimp only; omega)), rfl⟩

set_option maxHeartbeats 2000000 in
theorem over_any (l h n : Int) (w : World) :
    Calls Try.prog 14 #[.agg #[.int .i64 l, .int .i64 h], .int .i64 n] w fun e w' => e = .returned (.int .i64 (Ivl.over l h n)) ∧ Below w.heap.size w w' := by
  have Hc := Lib.hid (Ivl.over_cases l h n)
  cases hv : Ivl.validB l h
  · have Hv := Lib.hid hv
    go_enter Try.func14, Try.ntmps14
    go_wp2_with fail
    refine (valid_any _ _ _).mono ?_
    rintro e w1 ⟨rfl, hb1⟩
    obtain ⟨hc1, hd1⟩ := bcell hb1
    go_wp2
    go_ret
    exact ⟨ret_int (by have := Hc.out; have h2 := Hv.out; simp [h2] at this; omega), ((Below.refl _ _).alloc (Nat.le_refl _) _).trans (hb1.mono (by rw [size_alloc]; omega))⟩
  · have Hv := Lib.hid hv
    by_cases h1 : h ≤ n
    · go_enter Try.func14, Try.ntmps14
      go_wp2_with fail
      refine (valid_any _ _ _).mono ?_
      rintro e w1 ⟨rfl, hb1⟩
      obtain ⟨hc1, hd1⟩ := bcell hb1
      go_wp2
      go_ret
      exact ⟨ret_int (by have := Hc.out; have h2 := Hv.out; simp [h2] at this; omega), ((Below.refl _ _).alloc (Nat.le_refl _) _).trans (hb1.mono (by rw [size_alloc]; omega))⟩
    · by_cases h3 : n < l
      · go_enter Try.func14, Try.ntmps14
        go_wp2_with fail
        refine (valid_any _ _ _).mono ?_
        rintro e w1 ⟨rfl, hb1⟩
        obtain ⟨hc1, hd1⟩ := bcell hb1
        go_wp2
        go_ret
        exact ⟨ret_int (by have := Hc.out; have h2 := Hv.out; simp [h2] at this; omega), ((Below.refl _ _).alloc (Nat.le_refl _) _).trans (hb1.mono (by rw [size_alloc]; omega))⟩
      · go_enter Try.func14, Try.ntmps14
        go_wp2_with fail
        refine (valid_any _ _ _).mono ?_
        rintro e w1 ⟨rfl, hb1⟩
        obtain ⟨hc1, hd1⟩ := bcell hb1
        go_wp2
        go_ret
        exact ⟨ret_int (by have := Hc.out; have h2 := Hv.out; simp [h2] at this; omega), ((Below.refl _ _).alloc (Nat.le_refl _) _).trans (hb1.mono (by rw [size_alloc]; omega))⟩

set_option maxHeartbeats 1000000 in
theorem of_any (l h : Int) (w : World) :
    Calls Try.prog 13 #[.int .i64 l, .int .i64 h] w fun e w' => e = .returned (.agg #[.int .i64 l, .int .i64 h]) ∧ Below w.heap.size w w' := by
  go_enter Try.func13, Try.ntmps13
  go_wp2
  refine bodyPost_ret (v := .agg #[.int .i64 l, .int .i64 h]) (by simp [results, Try.results13, go_sem]) rfl ⟨rfl, ?_⟩
  exact (Below.refl _ _).alloc (Nat.le_refl _) _

end Go.Proofs.Ytijnnfioggjaeaa
