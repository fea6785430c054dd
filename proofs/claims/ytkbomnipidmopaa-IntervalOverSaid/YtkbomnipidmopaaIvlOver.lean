/- The statement on intervals over a number: its walk. -/
import Derived.Test.YtkbomnipidmopaaIvlHead
import Derived.Deep.RegionHeld3
namespace Go.Proofs.Ytkbomnipidmopaa
open Go.RowKit

/-- What a call that only makes memory leaves of two cells. -/
theorem keep2 {W0 w1 w2 : World} {a b : Addr} {x y : Value} (hb : Below w1.heap.size w1 w2) (h : w1.cell? a = some x ∧ w1.cell? b = some y ∧ Below W0.heap.size W0 w1) (ha : a.block < W0.heap.size) (hbk : b.block < W0.heap.size) :
    w2.cell? a = some x ∧ w2.cell? b = some y ∧ Below W0.heap.size W0 w2 :=
  ⟨by rw [hb.cell (Nat.lt_of_lt_of_le ha h.2.2.size)]; exact h.1, by rw [hb.cell (Nat.lt_of_lt_of_le hbk h.2.2.size)]; exact h.2.1, h.2.2.trans (hb.mono h.2.2.size)⟩
theorem keep2_end {w w2 : World} {o : Obj} {a b : Addr} {x y : Value} (h : w2.cell? a = some x ∧ w2.cell? b = some y ∧ Below (w.alloc o).heap.size (w.alloc o) w2) : Below w.heap.size w w2 :=
  ((Below.refl _ _).alloc (Nat.le_refl _) _).trans (h.2.2.mono (by rw [size_alloc]; omega))

set_option maxRecDepth 100000 in
set_option maxHeartbeats 4000000 in
theorem lawOver_bad (l u n m : Int) (hv : Ivl.validB l u = false) (w : World) :
    Calls Try.prog 8 #[.agg #[.int .i64 l, .int .i64 u], .int .i64 n, .int .i64 m] w fun e w' => e = .returned (.bool true) ∧ Below w.heap.size w w' := by
  have e1 : Ivl.over l u n = 0 := by have := Ivl.over_cases l u n; simp [hv] at this; exact this
  go_enter Try.func8, Try.ntmps8
  go_wp2_with fail
  refine (head_any _).mono ?_
  rintro e v1 ⟨rfl, hb⟩
  obtain ⟨hc, hd⟩ := bcell hb
  go_wp2_with fail
  refine (valid_any _ _ _).mono ?_
  rintro e v2 ⟨rfl, h⟩
  replace hb := hb.trans (h.mono hb.size)
  clear h hc hd
  obtain ⟨hc, hd⟩ := bcell hb
  go_wp2_with fail
  refine (over_any _ _ _ _).mono ?_
  rintro e v3 ⟨rfl, h⟩
  replace hb := hb.trans (h.mono hb.size)
  clear h hc hd
  obtain ⟨hc, hd⟩ := bcell hb
  go_wp2
  go_ret
  exact ⟨rfl, ((Below.refl _ _).alloc (Nat.le_refl _) _).trans (hb.mono (by rw [size_alloc]; omega))⟩

set_option maxRecDepth 100000 in
set_option maxHeartbeats 4000000 in
/-- A valid interval: what the tests come to is given. -/
theorem lawOver_lt (l u n m : Int) (t1 t2 : Bool) (hv : Ivl.validB l u = true) (h1 : n < m) (h2 : ¬ m < n)
    (d1 : decide (n < l) = t1) (d2 : decide (u ≤ n) = t2) (d3 : ((Ivl.over l u n == 2) == t1) = true) (d4 : ((Ivl.over l u n == 0) == t2) = true) (d5 : Ivl.over l u m ≤ Ivl.over l u n) (w : World) :
    Calls Try.prog 8 #[.agg #[.int .i64 l, .int .i64 u], .int .i64 n, .int .i64 m] w fun e w' => e = .returned (.bool true) ∧ Below w.heap.size w w' := by
  go_enter Try.func8, Try.ntmps8
  go_wp2_with fail
  refine (head_any _).mono ?_
  rintro e v1 ⟨rfl, hb⟩
  obtain ⟨hc, hd⟩ := bcell hb
  go_wp2_with fail
  refine (valid_any _ _ _).mono ?_
  rintro e v2 ⟨rfl, h⟩
  replace hb := hb.trans (h.mono hb.size)
  clear h hc hd
  obtain ⟨hc, hd⟩ := bcell hb
  go_wp2_with fail
  refine (over_any _ _ _ _).mono ?_
  rintro e v3 ⟨rfl, h⟩
  replace hb := hb.trans (h.mono hb.size)
  clear h hc hd
  obtain ⟨hc, hd⟩ := bcell hb
  have f1 := hc w.heap.size 0 (by rw [size_alloc]; omega)
  have f2 := hc w.heap.size 1 (by rw [size_alloc]; omega)
  rw [cell_alloc, if_pos rfl] at f1 f2
  simp at f1 f2
  clear hc hd
  go_wp2_with fail
  go_region_held3 (fun w' => w'.cell? ⟨w.heap.size, 0, none⟩ = some (.int .i64 l) ∧ w'.cell? ⟨w.heap.size, 1, none⟩ = some (.int .i64 u) ∧ Below (w.alloc (.cells #[.int .i64 l, .int .i64 u] 23)).heap.size (w.alloc (.cells #[.int .i64 l, .int .i64 u] 23)) w')
    (first | exact ⟨f1, f2, hb.drew⟩ | exact ⟨f1, f2, hb⟩ | exact keep2 h' ⟨f1, f2, hb.drew⟩ (by rw [size_alloc]; exact Nat.lt_succ_self _) (by rw [size_alloc]; exact Nat.lt_succ_self _) | exact keep2 h' (by assumption) (by rw [size_alloc]; exact Nat.lt_succ_self _) (by rw [size_alloc]; exact Nat.lt_succ_self _))
    (first | (go_at_call 21; refine (over_any _ _ _ _).mono ?_; rintro e w' ⟨rfl, h'⟩))
  all_goals
    go_wp2
    go_ret
    first
      | exact ⟨rfl, keep2_end (by assumption)⟩
      | exact ⟨rfl, keep2_end ⟨f1, f2, hb.drew⟩⟩

set_option maxRecDepth 100000 in
set_option maxHeartbeats 4000000 in
/-- A valid interval: what the tests come to is given. -/
theorem lawOver_gt (l u n m : Int) (t1 t2 : Bool) (hv : Ivl.validB l u = true) (h1 : ¬ n < m) (h2 : m < n)
    (d1 : decide (n < l) = t1) (d2 : decide (u ≤ n) = t2) (d3 : ((Ivl.over l u n == 2) == t1) = true) (d4 : ((Ivl.over l u n == 0) == t2) = true) (d5 : Ivl.over l u n ≤ Ivl.over l u m) (w : World) :
    Calls Try.prog 8 #[.agg #[.int .i64 l, .int .i64 u], .int .i64 n, .int .i64 m] w fun e w' => e = .returned (.bool true) ∧ Below w.heap.size w w' := by
  go_enter Try.func8, Try.ntmps8
  go_wp2_with fail
  refine (head_any _).mono ?_
  rintro e v1 ⟨rfl, hb⟩
  obtain ⟨hc, hd⟩ := bcell hb
  go_wp2_with fail
  refine (valid_any _ _ _).mono ?_
  rintro e v2 ⟨rfl, h⟩
  replace hb := hb.trans (h.mono hb.size)
  clear h hc hd
  obtain ⟨hc, hd⟩ := bcell hb
  go_wp2_with fail
  refine (over_any _ _ _ _).mono ?_
  rintro e v3 ⟨rfl, h⟩
  replace hb := hb.trans (h.mono hb.size)
  clear h hc hd
  obtain ⟨hc, hd⟩ := bcell hb
  have f1 := hc w.heap.size 0 (by rw [size_alloc]; omega)
  have f2 := hc w.heap.size 1 (by rw [size_alloc]; omega)
  rw [cell_alloc, if_pos rfl] at f1 f2
  simp at f1 f2
  clear hc hd
  go_wp2_with fail
  go_region_held3 (fun w' => w'.cell? ⟨w.heap.size, 0, none⟩ = some (.int .i64 l) ∧ w'.cell? ⟨w.heap.size, 1, none⟩ = some (.int .i64 u) ∧ Below (w.alloc (.cells #[.int .i64 l, .int .i64 u] 23)).heap.size (w.alloc (.cells #[.int .i64 l, .int .i64 u] 23)) w')
    (first | exact ⟨f1, f2, hb.drew⟩ | exact ⟨f1, f2, hb⟩ | exact keep2 h' ⟨f1, f2, hb.drew⟩ (by rw [size_alloc]; exact Nat.lt_succ_self _) (by rw [size_alloc]; exact Nat.lt_succ_self _) | exact keep2 h' (by assumption) (by rw [size_alloc]; exact Nat.lt_succ_self _) (by rw [size_alloc]; exact Nat.lt_succ_self _))
    (first | (go_at_call 21; refine (over_any _ _ _ _).mono ?_; rintro e w' ⟨rfl, h'⟩))
  all_goals
    go_wp2
    go_ret
    first
      | exact ⟨rfl, keep2_end (by assumption)⟩
      | exact ⟨rfl, keep2_end ⟨f1, f2, hb.drew⟩⟩

set_option maxRecDepth 100000 in
set_option maxHeartbeats 4000000 in
/-- A valid interval: what the tests come to is given. -/
theorem lawOver_eq (l u n : Int) (t1 t2 : Bool) (hv : Ivl.validB l u = true) (h1 : ¬ n < n)
    (d1 : decide (n < l) = t1) (d2 : decide (u ≤ n) = t2) (d3 : ((Ivl.over l u n == 2) == t1) = true) (d4 : ((Ivl.over l u n == 0) == t2) = true) (d5 : Ivl.over l u n ≤ Ivl.over l u n) (w : World) :
    Calls Try.prog 8 #[.agg #[.int .i64 l, .int .i64 u], .int .i64 n, .int .i64 n] w fun e w' => e = .returned (.bool true) ∧ Below w.heap.size w w' := by
  go_enter Try.func8, Try.ntmps8
  go_wp2_with fail
  refine (head_any _).mono ?_
  rintro e v1 ⟨rfl, hb⟩
  obtain ⟨hc, hd⟩ := bcell hb
  go_wp2_with fail
  refine (valid_any _ _ _).mono ?_
  rintro e v2 ⟨rfl, h⟩
  replace hb := hb.trans (h.mono hb.size)
  clear h hc hd
  obtain ⟨hc, hd⟩ := bcell hb
  go_wp2_with fail
  refine (over_any _ _ _ _).mono ?_
  rintro e v3 ⟨rfl, h⟩
  replace hb := hb.trans (h.mono hb.size)
  clear h hc hd
  obtain ⟨hc, hd⟩ := bcell hb
  have f1 := hc w.heap.size 0 (by rw [size_alloc]; omega)
  have f2 := hc w.heap.size 1 (by rw [size_alloc]; omega)
  rw [cell_alloc, if_pos rfl] at f1 f2
  simp at f1 f2
  clear hc hd
  go_wp2_with fail
  go_region_held3 (fun w' => w'.cell? ⟨w.heap.size, 0, none⟩ = some (.int .i64 l) ∧ w'.cell? ⟨w.heap.size, 1, none⟩ = some (.int .i64 u) ∧ Below (w.alloc (.cells #[.int .i64 l, .int .i64 u] 23)).heap.size (w.alloc (.cells #[.int .i64 l, .int .i64 u] 23)) w')
    (first | exact ⟨f1, f2, hb.drew⟩ | exact ⟨f1, f2, hb⟩ | exact keep2 h' ⟨f1, f2, hb.drew⟩ (by rw [size_alloc]; exact Nat.lt_succ_self _) (by rw [size_alloc]; exact Nat.lt_succ_self _) | exact keep2 h' (by assumption) (by rw [size_alloc]; exact Nat.lt_succ_self _) (by rw [size_alloc]; exact Nat.lt_succ_self _))
    (first | (go_at_call 21; refine (over_any _ _ _ _).mono ?_; rintro e w' ⟨rfl, h'⟩))
  all_goals
    go_wp2
    go_ret
    first
      | exact ⟨rfl, keep2_end (by assumption)⟩
      | exact ⟨rfl, keep2_end ⟨f1, f2, hb.drew⟩⟩

set_option maxHeartbeats 400000 in
theorem lawOver_any (l u n m : Int) (w : World) :
    Calls Try.prog 8 #[.agg #[.int .i64 l, .int .i64 u], .int .i64 n, .int .i64 m] w fun e w' => e = .returned (.bool true) ∧ Below w.heap.size w w' := by
  cases hv : Ivl.validB l u
  · exact lawOver_bad l u n m hv w
  · have h0 := Ivl.valid_iff.1 hv
    have c1 := Ivl.over_cases l u n
    have c2 := Ivl.over_cases l u m
    simp only [hv, Bool.true_eq_false, false_or, true_and] at c1 c2
    have d3 : ((Ivl.over l u n == 2) == decide (n < l)) = true := by
      by_cases h : n < l
      · rw [decide_eq_true h, show Ivl.over l u n = 2 by omega]; rfl
      · rw [decide_eq_false h, show (Ivl.over l u n == 2) = false by rw [beq_eq_false_iff_ne]; omega]; rfl
    have d4 : ((Ivl.over l u n == 0) == decide (u ≤ n)) = true := by
      by_cases h : u ≤ n
      · rw [decide_eq_true h, show Ivl.over l u n = 0 by omega]; rfl
      · rw [decide_eq_false h, show (Ivl.over l u n == 0) = false by rw [beq_eq_false_iff_ne]; omega]; rfl
    by_cases h1 : n < m
    · exact lawOver_lt l u n m _ _ hv h1 (by omega) rfl rfl d3 d4 (by omega) w
    · by_cases h2 : m < n
      · exact lawOver_gt l u n m _ _ hv h1 h2 rfl rfl d3 d4 (by omega) w
      · obtain rfl : n = m := by omega
        exact lawOver_eq l u n _ _ hv h1 rfl rfl d3 d4 (Int.le_refl _) w

end Go.Proofs.Ytkbomnipidmopaa
