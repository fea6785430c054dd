/- The statement that intervals agree with the reference implementation: its walk. -/
import Derived.Test.YtkbomnipidmopaaIvlRefC
import Derived.Deep.RegionHeld3
namespace Go.Proofs.Ytkbomnipidmopaa
open Go.RowKit

/-- What a call that only makes memory leaves of four cells. -/
theorem keep4 {W0 w1 w2 : World} {a b c d : Addr} {x1 x2 x3 x4 : Value} (hb : Below w1.heap.size w1 w2)
    (h : w1.cell? a = some x1 ∧ w1.cell? b = some x2 ∧ w1.cell? c = some x3 ∧ w1.cell? d = some x4 ∧ Below W0.heap.size W0 w1)
    (ha : a.block < W0.heap.size) (hb1 : b.block < W0.heap.size) (hc : c.block < W0.heap.size) (hd : d.block < W0.heap.size) :
    w2.cell? a = some x1 ∧ w2.cell? b = some x2 ∧ w2.cell? c = some x3 ∧ w2.cell? d = some x4 ∧ Below W0.heap.size W0 w2 := by
  obtain ⟨h1, h2, h3, h4, h7⟩ := h
  have z := h7.size
  refine ⟨?_, ?_, ?_, ?_, h7.trans (hb.mono z)⟩
  · rw [hb.cell (Nat.lt_of_lt_of_le ha z)]; exact h1
  · rw [hb.cell (Nat.lt_of_lt_of_le hb1 z)]; exact h2
  · rw [hb.cell (Nat.lt_of_lt_of_le hc z)]; exact h3
  · rw [hb.cell (Nat.lt_of_lt_of_le hd z)]; exact h4
theorem four_out {al ah bl bh : Int} {w w2 : World} (h : w2.cell? ⟨w.heap.size, 0, none⟩ = some (.int .i64 al) ∧ w2.cell? ⟨w.heap.size, 1, none⟩ = some (.int .i64 ah) ∧ w2.cell? ⟨w.heap.size + 1, 0, none⟩ = some (.int .i64 bl) ∧ w2.cell? ⟨w.heap.size + 1, 1, none⟩ = some (.int .i64 bh) ∧
      Below ((w.alloc (.cells #[.int .i64 al, .int .i64 ah] 23)).alloc (.cells #[.int .i64 bl, .int .i64 bh] 23)).heap.size ((w.alloc (.cells #[.int .i64 al, .int .i64 ah] 23)).alloc (.cells #[.int .i64 bl, .int .i64 bh] 23)) w2) : w2.cell? ⟨w.heap.size, 0, none⟩ = some (.int .i64 al) ∧ w2.cell? ⟨w.heap.size, 1, none⟩ = some (.int .i64 ah) ∧ w2.cell? ⟨w.heap.size + 1, 0, none⟩ = some (.int .i64 bl) ∧ w2.cell? ⟨w.heap.size + 1, 1, none⟩ = some (.int .i64 bh) ∧
      Below ((w.alloc (.cells #[.int .i64 al, .int .i64 ah] 23)).alloc (.cells #[.int .i64 bl, .int .i64 bh] 23)).heap.size ((w.alloc (.cells #[.int .i64 al, .int .i64 ah] 23)).alloc (.cells #[.int .i64 bl, .int .i64 bh] 23)) w2 := h
theorem two {w w2 : World} {o1 o2 : Obj} (h : Below ((w.alloc o1).alloc o2).heap.size ((w.alloc o1).alloc o2) w2) : Below w.heap.size w w2 :=
  (((Below.refl _ _).alloc (Nat.le_refl _) _).alloc (by rw [size_alloc]; omega) _).trans (h.mono (by rw [size_alloc, size_alloc]; omega))
theorem four_end {w w2 : World} {o1 o2 : Obj} {a b c d : Prop} (h : a ∧ b ∧ c ∧ d ∧ Below ((w.alloc o1).alloc o2).heap.size ((w.alloc o1).alloc o2) w2) : Below w.heap.size w w2 :=
  two h.2.2.2.2

set_option maxRecDepth 100000 in
set_option maxHeartbeats 8000000 in
theorem lawMatches_any (al ah bl bh n p q : Int) (w : World) :
    Calls Try.prog 3 #[.agg #[.int .i64 al, .int .i64 ah], .agg #[.int .i64 bl, .int .i64 bh], .int .i64 n, .int .i64 p, .int .i64 q] w
      fun e w' => e = .returned (.bool true) ∧ Below w.heap.size w w' := by
  go_enter Try.func3, Try.ntmps3
  go_wp2_with fail
  refine (head_any _).mono ?_
  rintro e v1 ⟨rfl, hb⟩
  obtain ⟨hc, hd⟩ := bcell hb
  have f1 := hc w.heap.size 0 (by simp only [size_alloc]; omega)
  have f2 := hc w.heap.size 1 (by simp only [size_alloc]; omega)
  have f3 := hc (w.heap.size + 1) 0 (by simp only [size_alloc]; omega)
  have f4 := hc (w.heap.size + 1) 1 (by simp only [size_alloc]; omega)
  simp [cell_alloc] at f1 f2 f3 f4
  clear hc hd
  go_wp2_with fail
  go_region_held3 (fun w' => w'.cell? ⟨w.heap.size, 0, none⟩ = some (.int .i64 al) ∧ w'.cell? ⟨w.heap.size, 1, none⟩ = some (.int .i64 ah) ∧ w'.cell? ⟨w.heap.size + 1, 0, none⟩ = some (.int .i64 bl) ∧ w'.cell? ⟨w.heap.size + 1, 1, none⟩ = some (.int .i64 bh) ∧
      Below ((w.alloc (.cells #[.int .i64 al, .int .i64 ah] 23)).alloc (.cells #[.int .i64 bl, .int .i64 bh] 23)).heap.size ((w.alloc (.cells #[.int .i64 al, .int .i64 ah] 23)).alloc (.cells #[.int .i64 bl, .int .i64 bh] 23)) w')
    (first
      | exact ⟨f1, f2, f3, f4, hb.drew⟩ | exact ⟨f1, f2, f3, f4, hb⟩ | assumption
      | exact keep4 h' ⟨f1, f2, f3, f4, hb.drew⟩ (by simp only [size_alloc]; omega) (by simp only [size_alloc]; omega) (by simp only [size_alloc]; omega) (by simp only [size_alloc]; omega)
      | exact keep4 h' (by assumption) (by simp only [size_alloc]; omega) (by simp only [size_alloc]; omega) (by simp only [size_alloc]; omega) (by simp only [size_alloc]; omega))
    (first
      | (go_at_call 11; refine (valid_any _ _ _).mono ?_; rintro e w' ⟨rfl, h'⟩)
      | (go_at_call 12; refine (refValid_any _ _ _).mono ?_; rintro e w' ⟨rfl, h'⟩)
      | (go_at_call 13; refine (add_any _ _ _ _ _).mono ?_; rintro e w' ⟨rfl, h'⟩)
      | (go_at_call 14; refine (refAdd_any _ _ _ _ _).mono ?_; rintro e w' ⟨rfl, h'⟩)
      | (go_at_call 15; refine (sub_any _ _ _ _ _).mono ?_; rintro e w' ⟨rfl, h'⟩)
      | (go_at_call 16; refine (refSub_any _ _ _ _ _).mono ?_; rintro e w' ⟨rfl, h'⟩)
      | (go_at_call 17; refine (mul_any _ _ _ _ _).mono ?_; rintro e w' ⟨rfl, h'⟩)
      | (go_at_call 18; refine (refMul_any _ _ _ _ _).mono ?_; rintro e w' ⟨rfl, h'⟩)
      | (go_at_call 19; refine (join_any _ _ _ _ _).mono ?_; rintro e w' ⟨rfl, h'⟩)
      | (go_at_call 20; refine (refJoin_any _ _ _ _ _).mono ?_; rintro e w' ⟨rfl, h'⟩))
  obtain ⟨k1, k2, k3, k4, hb2⟩ := four_out (w := w) (w2 := w') (al := al) (ah := ah) (bl := bl) (bh := bh) (by assumption)
  clear k1 k2 k3 k4 f1 f2 f3 f4 hb
  have hb := hb2
  clear hb2
  obtain ⟨hc, hd⟩ := bcell hb
  have f1 := hc w.heap.size 0 (by simp only [size_alloc]; omega)
  have f2 := hc w.heap.size 1 (by simp only [size_alloc]; omega)
  have f3 := hc (w.heap.size + 1) 0 (by simp only [size_alloc]; omega)
  have f4 := hc (w.heap.size + 1) 1 (by simp only [size_alloc]; omega)
  simp [cell_alloc] at f1 f2 f3 f4
  clear hc hd
  go_wp2_with fail
  go_region_held3 (fun w' => w'.cell? ⟨w.heap.size, 0, none⟩ = some (.int .i64 al) ∧ w'.cell? ⟨w.heap.size, 1, none⟩ = some (.int .i64 ah) ∧ w'.cell? ⟨w.heap.size + 1, 0, none⟩ = some (.int .i64 bl) ∧ w'.cell? ⟨w.heap.size + 1, 1, none⟩ = some (.int .i64 bh) ∧
      Below ((w.alloc (.cells #[.int .i64 al, .int .i64 ah] 23)).alloc (.cells #[.int .i64 bl, .int .i64 bh] 23)).heap.size ((w.alloc (.cells #[.int .i64 al, .int .i64 ah] 23)).alloc (.cells #[.int .i64 bl, .int .i64 bh] 23)) w')
    (first
      | exact ⟨f1, f2, f3, f4, hb.drew⟩ | exact ⟨f1, f2, f3, f4, hb⟩ | assumption
      | exact keep4 h' ⟨f1, f2, f3, f4, hb.drew⟩ (by simp only [size_alloc]; omega) (by simp only [size_alloc]; omega) (by simp only [size_alloc]; omega) (by simp only [size_alloc]; omega)
      | exact keep4 h' (by assumption) (by simp only [size_alloc]; omega) (by simp only [size_alloc]; omega) (by simp only [size_alloc]; omega) (by simp only [size_alloc]; omega))
    (first
      | (go_at_call 21; refine (over_any _ _ _ _).mono ?_; rintro e w' ⟨rfl, h'⟩)
      | (go_at_call 22; refine (refOver_any _ _ _ _).mono ?_; rintro e w' ⟨rfl, h'⟩)
      | (go_at_call 23; refine (not_any _ _).mono ?_; rintro e w' ⟨rfl, rfl⟩)
      | (go_at_call 24; refine (refNot_any _ _).mono ?_; rintro e w' ⟨rfl, rfl⟩)
      | (go_at_call 25; refine (and_any _ _ _).mono ?_; rintro e w' ⟨rfl, rfl⟩)
      | (go_at_call 26; refine (refAnd_any _ _ _).mono ?_; rintro e w' ⟨rfl, rfl⟩)
      | (go_at_call 27; refine (or_any _ _ _).mono ?_; rintro e w' ⟨rfl, rfl⟩)
      | (go_at_call 28; refine (refOr_any _ _ _).mono ?_; rintro e w' ⟨rfl, rfl⟩))
  all_goals
    go_wp2
    go_ret
    exact ⟨rfl, four_end (by assumption)⟩

end Go.Proofs.Ytkbomnipidmopaa
