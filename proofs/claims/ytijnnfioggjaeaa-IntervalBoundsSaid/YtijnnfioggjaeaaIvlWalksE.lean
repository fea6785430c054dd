/- The walks of package interval: joining; what the statements ask of intervals. -/
import Derived.Test.YtijnnfioggjaeaaIvlHead
import Derived.Test.YtijnnfioggjaeaaIvlMathB
namespace Go.Proofs.Ytijnnfioggjaeaa
open Go.RowKit

set_option maxHeartbeats 2000000 in
theorem join_bad (al ah bl bh : Int) (hv : (Ivl.validB al ah && Ivl.validB bl bh) = false) (w : World) :
    Calls Try.prog 10 #[.agg #[.int .i64 al, .int .i64 ah], .agg #[.int .i64 bl, .int .i64 bh]] w
      fun e w' => e = .returned (.agg #[.int .i64 0, .int .i64 0]) ∧ Below w.heap.size w w' := by
  cases hva : Ivl.validB al ah
  · go_enter Try.func10, Try.ntmps10
    go_wp2_with fail
    refine (valid_any _ _ _).mono ?_
    rintro e v1 ⟨rfl, hb⟩
    obtain ⟨hc, hd⟩ := bcell hb
    have z1 : w.heap.size + 3 ≤ v1.heap.size := by have := hb.size; simp only [size_alloc] at this; omega
    have hbw : Below w.heap.size w v1 := ((((Below.refl _ _).alloc (Nat.le_refl _) _).alloc (by simp only [size_alloc]; omega) _).alloc (by simp only [size_alloc]; omega) _).trans (hb.mono (by simp only [size_alloc]; omega))
    clear hb
    go_wp2
    refine bodyPost_ret (v := .agg #[.int .i64 0, .int .i64 0]) (by simp [results, Try.results10, go_sem, hc]) rfl ⟨rfl, ?_⟩
    exact (hbw.setCell (by show w.heap.size ≤ w.heap.size + 1 + 1; omega) _).setCell (by show w.heap.size ≤ w.heap.size + 1 + 1; omega) _
  · have hvb : Ivl.validB bl bh = false := by rw [hva] at hv; simpa using hv
    clear hv
    go_enter Try.func10, Try.ntmps10
    go_wp2_with fail
    refine (valid_any _ _ _).mono ?_
    rintro e v2 ⟨rfl, hb⟩
    obtain ⟨hc, hd⟩ := bcell hb
    go_wp2_with fail
    refine (valid_any _ _ _).mono ?_
    rintro e v3 ⟨rfl, h⟩
    replace hb := hb.trans (h.mono hb.size)
    clear h hc hd
    obtain ⟨hc, hd⟩ := bcell hb
    have z1 : w.heap.size + 3 ≤ v3.heap.size := by have := hb.size; simp only [size_alloc] at this; omega
    have hbw : Below w.heap.size w v3 := ((((Below.refl _ _).alloc (Nat.le_refl _) _).alloc (by simp only [size_alloc]; omega) _).alloc (by simp only [size_alloc]; omega) _).trans (hb.mono (by simp only [size_alloc]; omega))
    clear hb
    go_wp2
    refine bodyPost_ret (v := .agg #[.int .i64 0, .int .i64 0]) (by simp [results, Try.results10, go_sem, hc]) rfl ⟨rfl, ?_⟩
    exact (hbw.setCell (by show w.heap.size ≤ w.heap.size + 1 + 1; omega) _).setCell (by show w.heap.size ≤ w.heap.size + 1 + 1; omega) _

set_option maxHeartbeats 2000000 in
theorem join_good (al ah bl bh : Int) (hva : Ivl.validB al ah = true) (hvb : Ivl.validB bl bh = true) (w : World) :
    Calls Try.prog 10 #[.agg #[.int .i64 al, .int .i64 ah], .agg #[.int .i64 bl, .int .i64 bh]] w
      fun e w' => e = .returned (.agg #[.int .i64 (Ivl.low al [ah, bl, bh]), .int .i64 (Ivl.high al [ah, bl, bh])]) ∧ Below w.heap.size w w' := by
  go_enter Try.func10, Try.ntmps10
  go_wp2_with fail
  refine (valid_any _ _ _).mono ?_
  rintro e v1 ⟨rfl, hb⟩
  obtain ⟨hc, hd⟩ := bcell hb
  go_wp2_with fail
  refine (valid_any _ _ _).mono ?_
  rintro e v2 ⟨rfl, h⟩
  replace hb := hb.trans (h.mono hb.size)
  clear h hc hd
  obtain ⟨hc, hd⟩ := bcell hb
  have z1 : w.heap.size + 3 ≤ v2.heap.size := by have := hb.size; simp only [size_alloc] at this; omega
  have hbw : Below w.heap.size w v2 := ((((Below.refl _ _).alloc (Nat.le_refl _) _).alloc (by simp only [size_alloc]; omega) _).alloc (by simp only [size_alloc]; omega) _).trans (hb.mono (by simp only [size_alloc]; omega))
  clear hb
  have g5 := hc (w.heap.size + 1 + 1) 0 (by simp only [size_alloc]; omega)
  have g6 := hc (w.heap.size + 1 + 1) 1 (by simp only [size_alloc]; omega)
  have g7 := hd (w.heap.size + 1 + 1) 0 (by simp only [size_alloc]; omega)
  have g8 := hd (w.heap.size + 1 + 1) 1 (by simp only [size_alloc]; omega)
  simp [cell_alloc, frozen_alloc, Nat.add_assoc] at g5 g6 g7 g8
  go_wp2_with fail
  refine (hull_any al [ah, bl, bh] (by simp) v2.heap.size 3 _ (by simp only [size_alloc]; omega) (by
    intro k hk
    have hc : k = 0 ∨ k = 1 ∨ k = 2 := by simp at hk; omega
    rcases hc with rfl | rfl | rfl <;> simp [cell_alloc])).mono ?_
  rintro e w3 ⟨rfl, hb3⟩
  have z3 : v2.heap.size + 1 ≤ w3.heap.size := by have := hb3.size; simp only [size_alloc] at this; exact this
  have k5 : w3.cell? ⟨w.heap.size + 1 + 1, 0, none⟩ = some (.int .i64 0) := by
    rw [hb3.cell (by simp only [size_alloc]; show w.heap.size + 1 + 1 < _; omega), cell_alloc, if_neg (by omega)]; exact g5
  have k6 : w3.cell? ⟨w.heap.size + 1 + 1, 1, none⟩ = some (.int .i64 0) := by
    rw [hb3.cell (by simp only [size_alloc]; show w.heap.size + 1 + 1 < _; omega), cell_alloc, if_neg (by omega)]; exact g6
  have k7 : w3.frozen? ⟨w.heap.size + 1 + 1, 0, none⟩ = false := by
    rw [hb3.frozen (by simp only [size_alloc]; show w.heap.size + 1 + 1 < _; omega), frozen_alloc, if_neg (by omega)]; exact g7
  have k8 : w3.frozen? ⟨w.heap.size + 1 + 1, 1, none⟩ = false := by
    rw [hb3.frozen (by simp only [size_alloc]; show w.heap.size + 1 + 1 < _; omega), frozen_alloc, if_neg (by omega)]; exact g8
  have hbw3 : Below w.heap.size w w3 := (hbw.alloc (by omega) _).trans (hb3.mono (by simp only [size_alloc]; omega))
  clear hb3 hc hd g5 g6 g7 g8 hbw
  go_wp2
  refine bodyPost_ret (v := .agg #[.int .i64 (Ivl.low al [ah, bl, bh]), .int .i64 (Ivl.high al [ah, bl, bh])]) (by simp [results, Try.results10, go_sem, k5, k6]) rfl ⟨rfl, ?_⟩
  exact (hbw3.setCell (by show w.heap.size ≤ w.heap.size + 1 + 1; omega) _).setCell (by show w.heap.size ≤ w.heap.size + 1 + 1; omega) _
theorem join_any (al ah bl bh : Int) (w : World) :
    Calls Try.prog 10 #[.agg #[.int .i64 al, .int .i64 ah], .agg #[.int .i64 bl, .int .i64 bh]] w
      fun e w' => e = .returned (.agg #[.int .i64 (Ivl.join al ah bl bh).1, .int .i64 (Ivl.join al ah bl bh).2]) ∧ Below w.heap.size w w' := by
  unfold Ivl.join
  cases hv : (Ivl.validB al ah && Ivl.validB bl bh)
  · exact join_bad al ah bl bh hv w
  · simp only [Bool.and_eq_true] at hv
    exact join_good al ah bl bh hv.1 hv.2 w

end Go.Proofs.Ytijnnfioggjaeaa
