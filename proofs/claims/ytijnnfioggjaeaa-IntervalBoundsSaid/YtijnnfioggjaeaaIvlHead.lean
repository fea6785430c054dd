/- The walk of the statements' fixed examples over package interval. -/
import Derived.Test.YtijnnfioggjaeaaIvlWalksD
namespace Go.Proofs.Ytijnnfioggjaeaa
open Go.RowKit

set_option maxHeartbeats 4000000 in
theorem head_any (w : World) :
    Calls Try.prog 4 #[] w fun e w' => e = .returned (.bool true) ∧ Below w.heap.size w w' := by
  have e1 : Ivl.comb Ivl.plus 1 3 (-2) 5 = (-1, 8) := by decide
  have e2 : Ivl.comb Ivl.minus 1 3 (-2) 5 = (-4, 5) := by decide
  have e3 : Ivl.comb Ivl.times 1 3 (-2) 5 = (-6, 15) := by decide
  have e4 : Ivl.over 3 7 5 = 1 := by decide
  have e5 : Ivl.over 3 7 2 = 2 := by decide
  have e6 : Ivl.over 3 7 7 = 0 := by decide
  have e7 : Ivl.andT 1 0 = 0 := by decide
  have e8 : Ivl.orT 1 0 = 1 := by decide
  go_enter Try.func4, Try.ntmps4
  go_wp2_with fail
  refine (of_any _ _ _).mono ?_
  rintro e w1 ⟨rfl, hb1⟩
  go_wp2_with fail
  refine (of_any _ _ _).mono ?_
  rintro e w2 ⟨rfl, hb2⟩
  go_wp2_with fail
  refine (of_any _ _ _).mono ?_
  rintro e w3 ⟨rfl, hb3⟩
  have hb0 : Below w.heap.size w w3 := (hb1.trans (hb2.mono hb1.size)).trans (hb3.mono (Nat.le_trans hb1.size hb2.size))
  clear hb1 hb2 hb3
  go_wp2_with fail
  refine (add_any _ _ _ _ _).mono ?_
  rintro e v1 ⟨rfl, hb⟩
  obtain ⟨hc, hd⟩ := bcell hb
  go_wp2_with fail
  refine (of_any _ _ _).mono ?_
  rintro e v2 ⟨rfl, h⟩
  replace hb := hb.trans (h.mono hb.size)
  clear h hc hd
  obtain ⟨hc, hd⟩ := bcell hb
  go_wp2_with fail
  refine (sub_any _ _ _ _ _).mono ?_
  rintro e v3 ⟨rfl, h⟩
  replace hb := hb.trans (h.mono hb.size)
  clear h hc hd
  obtain ⟨hc, hd⟩ := bcell hb
  go_wp2_with fail
  refine (of_any _ _ _).mono ?_
  rintro e v4 ⟨rfl, h⟩
  replace hb := hb.trans (h.mono hb.size)
  clear h hc hd
  obtain ⟨hc, hd⟩ := bcell hb
  go_wp2_with fail
  refine (mul_any _ _ _ _ _).mono ?_
  rintro e v5 ⟨rfl, h⟩
  replace hb := hb.trans (h.mono hb.size)
  clear h hc hd
  obtain ⟨hc, hd⟩ := bcell hb
  go_wp2_with fail
  refine (of_any _ _ _).mono ?_
  rintro e v6 ⟨rfl, h⟩
  replace hb := hb.trans (h.mono hb.size)
  clear h hc hd
  obtain ⟨hc, hd⟩ := bcell hb
  go_wp2_with fail
  refine (over_any _ _ _ _).mono ?_
  rintro e v7 ⟨rfl, h⟩
  replace hb := hb.trans (h.mono hb.size)
  clear h hc hd
  obtain ⟨hc, hd⟩ := bcell hb
  go_wp2_with fail
  refine (over_any _ _ _ _).mono ?_
  rintro e v8 ⟨rfl, h⟩
  replace hb := hb.trans (h.mono hb.size)
  clear h hc hd
  obtain ⟨hc, hd⟩ := bcell hb
  go_wp2_with fail
  refine (over_any _ _ _ _).mono ?_
  rintro e v9 ⟨rfl, h⟩
  replace hb := hb.trans (h.mono hb.size)
  clear h hc hd
  obtain ⟨hc, hd⟩ := bcell hb
  go_wp2_with fail
  refine (and_any _ _ _).mono ?_
  rintro e _ ⟨rfl, rfl⟩
  go_wp2_with fail
  refine (or_any _ _ _).mono ?_
  rintro e _ ⟨rfl, rfl⟩
  go_wp2
  go_ret
  refine ⟨rfl, ?_⟩
  have hz := hb0.size
  exact (((hb0.alloc hz _).alloc (by rw [size_alloc]; omega) _).alloc (by rw [size_alloc, size_alloc]; omega) _).trans (hb.mono (by rw [size_alloc, size_alloc, size_alloc]; omega))

end Go.Proofs.Ytijnnfioggjaeaa
