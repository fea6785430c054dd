/- The walks of the reference implementation of intervals: sums, differences, products, joins. -/
import Derived.Test.YtkbomnipidmopaaIvlRefA
import Derived.Test.YtkbomnipidmopaaIvlMathC
namespace Go.Proofs.Ytkbomnipidmopaa
open Go.RowKit

namespace Ivl
theorem comb_plus {al ah bl bh : Int} (ha : validB al ah = true) (hb : validB bl bh = true) : comb plus al ah bl bh = (sat (al + bl), sat (ah + bh)) := by
  have va := valid_iff.1 ha
  have vb := valid_iff.1 hb
  rw [comb_of ha hb]
  have a := low3 (plus al bl) (plus al bh) (plus ah bl) (plus ah bh)
  have b := high3 (plus al bl) (plus al bh) (plus ah bl) (plus ah bh)
  unfold plus at *
  have := sat_mono (show al + bl ≤ al + bh by omega)
  have := sat_mono (show al + bl ≤ ah + bl by omega)
  have := sat_mono (show al + bl ≤ ah + bh by omega)
  have := sat_mono (show al + bh ≤ ah + bh by omega)
  have := sat_mono (show ah + bl ≤ ah + bh by omega)
  exact pair_ext (by dsimp only; omega) (by dsimp only; omega)
theorem comb_minus {al ah bl bh : Int} (ha : validB al ah = true) (hb : validB bl bh = true) : comb minus al ah bl bh = (sat (al - bh), sat (ah - bl)) := by
  have va := valid_iff.1 ha
  have vb := valid_iff.1 hb
  rw [comb_of ha hb]
  have a := low3 (minus al bl) (minus al bh) (minus ah bl) (minus ah bh)
  have b := high3 (minus al bl) (minus al bh) (minus ah bl) (minus ah bh)
  unfold minus at *
  have := sat_mono (show al - bh ≤ al - bl by omega)
  have := sat_mono (show al - bh ≤ ah - bl by omega)
  have := sat_mono (show al - bh ≤ ah - bh by omega)
  have := sat_mono (show al - bl ≤ ah - bl by omega)
  have := sat_mono (show ah - bh ≤ ah - bl by omega)
  exact pair_ext (by dsimp only; omega) (by dsimp only; omega)
end Ivl

set_option maxHeartbeats 2000000 in
theorem refAdd_bad (al ah bl bh : Int) (hv : (Ivl.validB al ah && Ivl.validB bl bh) = false) (w : World) :
    Calls Try.prog 14 #[.agg #[.int .i64 al, .int .i64 ah], .agg #[.int .i64 bl, .int .i64 bh]] w
      fun e w' => e = .returned (.agg #[.int .i64 0, .int .i64 0]) ∧ Below w.heap.size w w' := by
  cases hva : Ivl.validB al ah
  · go_enter Try.func14, Try.ntmps14
    go_wp2_with fail
    refine (refValid_any _ _ _).mono ?_
    rintro e v1 ⟨rfl, hb⟩
    obtain ⟨hc, hd⟩ := bcell hb
    have z1 : w.heap.size + 3 ≤ v1.heap.size := by have := hb.size; simp only [size_alloc] at this; omega
    have hbw : Below w.heap.size w v1 := ((((Below.refl _ _).alloc (Nat.le_refl _) _).alloc (by simp only [size_alloc]; omega) _).alloc (by simp only [size_alloc]; omega) _).trans (hb.mono (by simp only [size_alloc]; omega))
    clear hb
    go_wp2
    refine bodyPost_ret (v := .agg #[.int .i64 0, .int .i64 0]) (by simp [results, Try.results14, go_sem, hc]) rfl ⟨rfl, ?_⟩
    exact (hbw.setCell (by show w.heap.size ≤ w.heap.size + 1 + 1; omega) _).setCell (by show w.heap.size ≤ w.heap.size + 1 + 1; omega) _
  · have hvb : Ivl.validB bl bh = false := by rw [hva] at hv; simpa using hv
    clear hv
    go_enter Try.func14, Try.ntmps14
    go_wp2_with fail
    refine (refValid_any _ _ _).mono ?_
    rintro e v2 ⟨rfl, hb⟩
    obtain ⟨hc, hd⟩ := bcell hb
    go_wp2_with fail
    refine (refValid_any _ _ _).mono ?_
    rintro e v3 ⟨rfl, h⟩
    replace hb := hb.trans (h.mono hb.size)
    clear h hc hd
    obtain ⟨hc, hd⟩ := bcell hb
    have z1 : w.heap.size + 3 ≤ v3.heap.size := by have := hb.size; simp only [size_alloc] at this; omega
    have hbw : Below w.heap.size w v3 := ((((Below.refl _ _).alloc (Nat.le_refl _) _).alloc (by simp only [size_alloc]; omega) _).alloc (by simp only [size_alloc]; omega) _).trans (hb.mono (by simp only [size_alloc]; omega))
    clear hb
    go_wp2
    refine bodyPost_ret (v := .agg #[.int .i64 0, .int .i64 0]) (by simp [results, Try.results14, go_sem, hc]) rfl ⟨rfl, ?_⟩
    exact (hbw.setCell (by show w.heap.size ≤ w.heap.size + 1 + 1; omega) _).setCell (by show w.heap.size ≤ w.heap.size + 1 + 1; omega) _

set_option maxHeartbeats 2000000 in
theorem refAdd_good (al ah bl bh : Int) (hva : Ivl.validB al ah = true) (hvb : Ivl.validB bl bh = true) (w : World) :
    Calls Try.prog 14 #[.agg #[.int .i64 al, .int .i64 ah], .agg #[.int .i64 bl, .int .i64 bh]] w
      fun e w' => e = .returned (.agg #[.int .i64 (Ivl.sat (al + bl)), .int .i64 (Ivl.sat (ah + bh))]) ∧ Below w.heap.size w w' := by
  obtain ⟨va1, va2, va3⟩ := Ivl.valid_iff.1 hva
  obtain ⟨vb1, vb2, vb3⟩ := Ivl.valid_iff.1 hvb
  go_enter Try.func14, Try.ntmps14
  go_wp2_with fail
  refine (refValid_any _ _ _).mono ?_
  rintro e v1 ⟨rfl, hb⟩
  obtain ⟨hc, hd⟩ := bcell hb
  go_wp2_with fail
  refine (refValid_any _ _ _).mono ?_
  rintro e v2 ⟨rfl, h⟩
  replace hb := hb.trans (h.mono hb.size)
  clear h hc hd
  obtain ⟨hc, hd⟩ := bcell hb
  have z1 : w.heap.size + 3 ≤ v2.heap.size := by have := hb.size; simp only [size_alloc] at this; omega
  have hbw : Below w.heap.size w v2 := ((((Below.refl _ _).alloc (Nat.le_refl _) _).alloc (by simp only [size_alloc]; omega) _).alloc (by simp only [size_alloc]; omega) _).trans (hb.mono (by simp only [size_alloc]; omega))
  clear hb
  have f1 := hc w.heap.size 0 (by simp only [size_alloc]; omega)
  have f2 := hc w.heap.size 1 (by simp only [size_alloc]; omega)
  have f3 := hc (w.heap.size + 1) 0 (by simp only [size_alloc]; omega)
  have f4 := hc (w.heap.size + 1) 1 (by simp only [size_alloc]; omega)
  have g5 := hc (w.heap.size + 1 + 1) 0 (by simp only [size_alloc]; omega)
  have g6 := hc (w.heap.size + 1 + 1) 1 (by simp only [size_alloc]; omega)
  have g7 := hd (w.heap.size + 1 + 1) 0 (by simp only [size_alloc]; omega)
  have g8 := hd (w.heap.size + 1 + 1) 1 (by simp only [size_alloc]; omega)
  simp [cell_alloc, frozen_alloc, Nat.add_assoc] at f1 f2 f3 f4 g5 g6 g7 g8
  clear hc hd
  go_wp2_with fail
  go_still_tail 12, (by kernel_rfl)
  still_call (still_of (refSat_any _ _))
  repeat still_step
  still_call (still_of (refSat_any _ _))
  repeat still_step
  refine wpStill_nil ?_
  go_wp2
  refine bodyPost_ret (v := .agg #[.int .i64 (Ivl.sat (al + bl)), .int .i64 (Ivl.sat (ah + bh))]) (by simp [results, Try.results14, go_sem, g5, g6]) rfl ⟨rfl, ?_⟩
  exact (hbw.drew.setCell (by show w.heap.size ≤ w.heap.size + 1 + 1; omega) _).setCell (by show w.heap.size ≤ w.heap.size + 1 + 1; omega) _

set_option maxHeartbeats 2000000 in
theorem refSub_bad (al ah bl bh : Int) (hv : (Ivl.validB al ah && Ivl.validB bl bh) = false) (w : World) :
    Calls Try.prog 16 #[.agg #[.int .i64 al, .int .i64 ah], .agg #[.int .i64 bl, .int .i64 bh]] w
      fun e w' => e = .returned (.agg #[.int .i64 0, .int .i64 0]) ∧ Below w.heap.size w w' := by
  cases hva : Ivl.validB al ah
  · go_enter Try.func16, Try.ntmps16
    go_wp2_with fail
    refine (refValid_any _ _ _).mono ?_
    rintro e v1 ⟨rfl, hb⟩
    obtain ⟨hc, hd⟩ := bcell hb
    have z1 : w.heap.size + 3 ≤ v1.heap.size := by have := hb.size; simp only [size_alloc] at this; omega
    have hbw : Below w.heap.size w v1 := ((((Below.refl _ _).alloc (Nat.le_refl _) _).alloc (by simp only [size_alloc]; omega) _).alloc (by simp only [size_alloc]; omega) _).trans (hb.mono (by simp only [size_alloc]; omega))
    clear hb
    go_wp2
    refine bodyPost_ret (v := .agg #[.int .i64 0, .int .i64 0]) (by simp [results, Try.results16, go_sem, hc]) rfl ⟨rfl, ?_⟩
    exact (hbw.setCell (by show w.heap.size ≤ w.heap.size + 1 + 1; omega) _).setCell (by show w.heap.size ≤ w.heap.size + 1 + 1; omega) _
  · have hvb : Ivl.validB bl bh = false := by rw [hva] at hv; simpa using hv
    clear hv
    go_enter Try.func16, Try.ntmps16
    go_wp2_with fail
    refine (refValid_any _ _ _).mono ?_
    rintro e v2 ⟨rfl, hb⟩
    obtain ⟨hc, hd⟩ := bcell hb
    go_wp2_with fail
    refine (refValid_any _ _ _).mono ?_
    rintro e v3 ⟨rfl, h⟩
    replace hb := hb.trans (h.mono hb.size)
    clear h hc hd
    obtain ⟨hc, hd⟩ := bcell hb
    have z1 : w.heap.size + 3 ≤ v3.heap.size := by have := hb.size; simp only [size_alloc] at this; omega
    have hbw : Below w.heap.size w v3 := ((((Below.refl _ _).alloc (Nat.le_refl _) _).alloc (by simp only [size_alloc]; omega) _).alloc (by simp only [size_alloc]; omega) _).trans (hb.mono (by simp only [size_alloc]; omega))
    clear hb
    go_wp2
    refine bodyPost_ret (v := .agg #[.int .i64 0, .int .i64 0]) (by simp [results, Try.results16, go_sem, hc]) rfl ⟨rfl, ?_⟩
    exact (hbw.setCell (by show w.heap.size ≤ w.heap.size + 1 + 1; omega) _).setCell (by show w.heap.size ≤ w.heap.size + 1 + 1; omega) _

set_option maxHeartbeats 2000000 in
theorem refSub_good (al ah bl bh : Int) (hva : Ivl.validB al ah = true) (hvb : Ivl.validB bl bh = true) (w : World) :
    Calls Try.prog 16 #[.agg #[.int .i64 al, .int .i64 ah], .agg #[.int .i64 bl, .int .i64 bh]] w
      fun e w' => e = .returned (.agg #[.int .i64 (Ivl.sat (al - bh)), .int .i64 (Ivl.sat (ah - bl))]) ∧ Below w.heap.size w w' := by
  obtain ⟨va1, va2, va3⟩ := Ivl.valid_iff.1 hva
  obtain ⟨vb1, vb2, vb3⟩ := Ivl.valid_iff.1 hvb
  go_enter Try.func16, Try.ntmps16
  go_wp2_with fail
  refine (refValid_any _ _ _).mono ?_
  rintro e v1 ⟨rfl, hb⟩
  obtain ⟨hc, hd⟩ := bcell hb
  go_wp2_with fail
  refine (refValid_any _ _ _).mono ?_
  rintro e v2 ⟨rfl, h⟩
  replace hb := hb.trans (h.mono hb.size)
  clear h hc hd
  obtain ⟨hc, hd⟩ := bcell hb
  have z1 : w.heap.size + 3 ≤ v2.heap.size := by have := hb.size; simp only [size_alloc] at this; omega
  have hbw : Below w.heap.size w v2 := ((((Below.refl _ _).alloc (Nat.le_refl _) _).alloc (by simp only [size_alloc]; omega) _).alloc (by simp only [size_alloc]; omega) _).trans (hb.mono (by simp only [size_alloc]; omega))
  clear hb
  have f1 := hc w.heap.size 0 (by simp only [size_alloc]; omega)
  have f2 := hc w.heap.size 1 (by simp only [size_alloc]; omega)
  have f3 := hc (w.heap.size + 1) 0 (by simp only [size_alloc]; omega)
  have f4 := hc (w.heap.size + 1) 1 (by simp only [size_alloc]; omega)
  have g5 := hc (w.heap.size + 1 + 1) 0 (by simp only [size_alloc]; omega)
  have g6 := hc (w.heap.size + 1 + 1) 1 (by simp only [size_alloc]; omega)
  have g7 := hd (w.heap.size + 1 + 1) 0 (by simp only [size_alloc]; omega)
  have g8 := hd (w.heap.size + 1 + 1) 1 (by simp only [size_alloc]; omega)
  simp [cell_alloc, frozen_alloc, Nat.add_assoc] at f1 f2 f3 f4 g5 g6 g7 g8
  clear hc hd
  go_wp2_with fail
  go_still_tail 12, (by kernel_rfl)
  still_call (still_of (refSat_any _ _))
  repeat still_step
  still_call (still_of (refSat_any _ _))
  repeat still_step
  refine wpStill_nil ?_
  go_wp2
  refine bodyPost_ret (v := .agg #[.int .i64 (Ivl.sat (al - bh)), .int .i64 (Ivl.sat (ah - bl))]) (by simp [results, Try.results16, go_sem, g5, g6]) rfl ⟨rfl, ?_⟩
  exact (hbw.drew.setCell (by show w.heap.size ≤ w.heap.size + 1 + 1; omega) _).setCell (by show w.heap.size ≤ w.heap.size + 1 + 1; omega) _

end Go.Proofs.Ytkbomnipidmopaa
