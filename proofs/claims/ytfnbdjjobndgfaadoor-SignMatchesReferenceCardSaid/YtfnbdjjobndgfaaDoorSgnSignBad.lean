/- The walk of sign.Sign on what it refuses. -/
import Derived.Test.YtfnbdjjobndgfaaDoorSgnVerify
namespace Go.Proofs.YtfnbdjjobndgfaaDoor
open Go.RowKit

/-- What Sign answers then. -/
def noSeal : Value := .tuple #[.agg #[.int .i64 0, .slice none 0 0, .slice none 0 0], .int .i64 1]

set_option maxRecDepth 100000 in
set_option maxHeartbeats 4000000 in
theorem sign_bad1 (sec msg : ByteArray) (h idx : Int) (hh : (decide (0 ≤ h) && decide (h ≤ 8)) = false) (w : World) :
    Calls Tryd.prog 15 #[.string sec, .int .i64 h, .int .i64 idx, .string msg] w fun e w' => e = .returned noSeal ∧ Below w.heap.size w w' := by
  have HI : Hid (∀ w, Calls Tryd.prog 26 #[.int .i64 h] w fun e w' => e = .returned (.bool false) ∧ w = w') := Lib.hid fun w => by
    have := isHeight_any h w
    rw [hh] at this
    exact this
  clear hh
  go_enter Tryd.func15, Tryd.ntmps15
  go_wp2_with fail
  obtain ⟨W0, HW0⟩ : ∃ x, Hid (x = ((w.alloc (.cells #[.string sec] 9)).alloc (.cells #[.int .i64 idx] 3)).alloc (.cells #[.int .i64 0, .slice none 0 0, .slice none 0 0] 24)) := ⟨_, Lib.hid rfl⟩
  have HB0 : Hid (Below w.heap.size w W0) := Lib.hid (by
    rw [HW0.out]
    exact (((Below.refl _ _).alloc (Nat.le_refl _) _).alloc (by rw [size_alloc]; omega) _).alloc (by rw [size_alloc, size_alloc]; omega) _)
  have hz0 : W0.heap.size = w.heap.size + 1 + 1 + 1 := by rw [HW0.out]; simp
  have a1 : W0.cell? ⟨w.heap.size + 1, 0, none⟩ = some (.int .i64 idx) := by rw [HW0.out]; simp [cell_alloc]
  have HWr : Hid (Whole W0 (w.heap.size + 1 + 1) 24 #[.int .i64 0, .slice none 0 0, .slice none 0 0]) := Lib.hid (by
    rw [HW0.out]
    have := Whole.new ((w.alloc (.cells #[.string sec] 9)).alloc (.cells #[.int .i64 idx] 3)) 24 #[.int .i64 0, .slice none 0 0, .slice none 0 0]
    rwa [size_alloc, size_alloc] at this)
  rw [← HW0.out]
  have e1 : ∀ X : Grown W0, X.w.cell? ⟨w.heap.size + 1, 0, none⟩ = some (.int .i64 idx) := fun X => by rw [X.cell (by omega)]; exact a1
  refine wp_region_grown (by kernel_rfl) (by kernel_rfl) ?_
  repeat (go_big_quiet_step (exact grown_of_same (HI.out _)))
  refine wpQuiet_nil ?_
  rintro _ ⟨X, rfl⟩
  have HWx : Hid (Whole X.w (w.heap.size + 1 + 1) 24 #[.int .i64 0, .slice none 0 0, .slice none 0 0]) := Lib.hid ((X.below.block _ HWr.out.lt).trans HWr.out)
  have HBx : Hid (Below w.heap.size w X.w) := Lib.hid (HB0.out.trans (X.below.mono HB0.out.size))
  obtain ⟨W1, HW1⟩ : ∃ y, Hid (y = X.w) := ⟨_, Lib.hid rfl⟩
  rw [← HW1.out] at HWx HBx ⊢
  obtain ⟨R, HR⟩ : ∃ y, Hid (y = w.heap.size + 1 + 1) := ⟨_, Lib.hid rfl⟩
  rw [← HR.out] at HWx ⊢
  have c0 : W1.cell? ⟨R, 0, none⟩ = some (.int .i64 0) := HWx.out.cell 0
  have c1 : W1.cell? ⟨R, 1, none⟩ = some (.slice none 0 0) := HWx.out.cell 1
  have c2 : W1.cell? ⟨R, 2, none⟩ = some (.slice none 0 0) := HWx.out.cell 2
  have f0 := HWx.out.frozen 0
  have f1 := HWx.out.frozen 1
  have f2 := HWx.out.frozen 2
  have hRw : w.heap.size ≤ R := by rw [HR.out]; omega
  clear e1 a1
  go_wp2_with fail
  have HWe : Hid (Whole (((W1.setCell ⟨R, 0, none⟩ (.int .i64 0)).setCell ⟨R, 1, none⟩ (.slice none 0 0)).setCell ⟨R, 2, none⟩ (.slice none 0 0)) R 24 #[.int .i64 0, .slice none 0 0, .slice none 0 0]) := Lib.hid (((HWx.out.set 0 _).set 1 _).set 2 _)
  have HBe : Hid (Below w.heap.size w (((W1.setCell ⟨R, 0, none⟩ (.int .i64 0)).setCell ⟨R, 1, none⟩ (.slice none 0 0)).setCell ⟨R, 2, none⟩ (.slice none 0 0))) := Lib.hid (((HBx.out.setCell (p := ⟨R, 0, none⟩) hRw _).setCell (p := ⟨R, 1, none⟩) hRw _).setCell (p := ⟨R, 2, none⟩) hRw _)
  generalize (((W1.setCell ⟨R, 0, none⟩ (.int .i64 0)).setCell ⟨R, 1, none⟩ (.slice none 0 0)).setCell ⟨R, 2, none⟩ (.slice none 0 0)) = W2 at HWe HBe ⊢
  have d0 : W2.cell? ⟨R, 0, none⟩ = some (.int .i64 0) := HWe.out.cell 0
  have d1 : W2.cell? ⟨R, 1, none⟩ = some (.slice none 0 0) := HWe.out.cell 1
  have d2 : W2.cell? ⟨R, 2, none⟩ = some (.slice none 0 0) := HWe.out.cell 2
  refine bodyPost_ret (v := noSeal) (by simp [results, Tryd.results15, go_sem, noSeal, d0, d1, d2]) rfl ⟨rfl, HBe.out⟩

set_option maxRecDepth 100000 in
set_option maxHeartbeats 4000000 in
theorem sign_bad2 (sec msg : ByteArray) (h : Nat) (hh : h ≤ 8) (idx : Int) (hi : idx < 0) (w : World) :
    Calls Tryd.prog 15 #[.string sec, .int .i64 h, .int .i64 idx, .string msg] w fun e w' => e = .returned noSeal ∧ Below w.heap.size w w' := by
  have HI : Hid (∀ w, Calls Tryd.prog 26 #[.int .i64 h] w fun e w' => e = .returned (.bool true) ∧ w = w') := Lib.hid fun w => by
    have := isHeight_any h w
    rw [decide_eq_true (show (0 : Int) ≤ h by omega), decide_eq_true (show (h : Int) ≤ 8 by omega)] at this
    exact this
  have d0 : decide (idx < 0) = true := decide_eq_true hi
  clear hi
  go_enter Tryd.func15, Tryd.ntmps15
  go_wp2_with fail
  obtain ⟨W0, HW0⟩ : ∃ x, Hid (x = ((w.alloc (.cells #[.string sec] 9)).alloc (.cells #[.int .i64 idx] 3)).alloc (.cells #[.int .i64 0, .slice none 0 0, .slice none 0 0] 24)) := ⟨_, Lib.hid rfl⟩
  have HB0 : Hid (Below w.heap.size w W0) := Lib.hid (by
    rw [HW0.out]
    exact (((Below.refl _ _).alloc (Nat.le_refl _) _).alloc (by rw [size_alloc]; omega) _).alloc (by rw [size_alloc, size_alloc]; omega) _)
  have hz0 : W0.heap.size = w.heap.size + 1 + 1 + 1 := by rw [HW0.out]; simp
  have a1 : W0.cell? ⟨w.heap.size + 1, 0, none⟩ = some (.int .i64 idx) := by rw [HW0.out]; simp [cell_alloc]
  have HWr : Hid (Whole W0 (w.heap.size + 1 + 1) 24 #[.int .i64 0, .slice none 0 0, .slice none 0 0]) := Lib.hid (by
    rw [HW0.out]
    have := Whole.new ((w.alloc (.cells #[.string sec] 9)).alloc (.cells #[.int .i64 idx] 3)) 24 #[.int .i64 0, .slice none 0 0, .slice none 0 0]
    rwa [size_alloc, size_alloc] at this)
  rw [← HW0.out]
  have e1 : ∀ X : Grown W0, X.w.cell? ⟨w.heap.size + 1, 0, none⟩ = some (.int .i64 idx) := fun X => by rw [X.cell (by omega)]; exact a1
  refine wp_region_grown (by kernel_rfl) (by kernel_rfl) ?_
  repeat (go_big_quiet_step (exact grown_of_same (HI.out _)))
  refine wpQuiet_nil ?_
  rintro _ ⟨X, rfl⟩
  have HWx : Hid (Whole X.w (w.heap.size + 1 + 1) 24 #[.int .i64 0, .slice none 0 0, .slice none 0 0]) := Lib.hid ((X.below.block _ HWr.out.lt).trans HWr.out)
  have HBx : Hid (Below w.heap.size w X.w) := Lib.hid (HB0.out.trans (X.below.mono HB0.out.size))
  obtain ⟨W1, HW1⟩ : ∃ y, Hid (y = X.w) := ⟨_, Lib.hid rfl⟩
  rw [← HW1.out] at HWx HBx ⊢
  obtain ⟨R, HR⟩ : ∃ y, Hid (y = w.heap.size + 1 + 1) := ⟨_, Lib.hid rfl⟩
  rw [← HR.out] at HWx ⊢
  have c0 : W1.cell? ⟨R, 0, none⟩ = some (.int .i64 0) := HWx.out.cell 0
  have c1 : W1.cell? ⟨R, 1, none⟩ = some (.slice none 0 0) := HWx.out.cell 1
  have c2 : W1.cell? ⟨R, 2, none⟩ = some (.slice none 0 0) := HWx.out.cell 2
  have f0 := HWx.out.frozen 0
  have f1 := HWx.out.frozen 1
  have f2 := HWx.out.frozen 2
  have hRw : w.heap.size ≤ R := by rw [HR.out]; omega
  clear e1 a1
  go_wp2_with fail
  have HWe : Hid (Whole (((W1.setCell ⟨R, 0, none⟩ (.int .i64 0)).setCell ⟨R, 1, none⟩ (.slice none 0 0)).setCell ⟨R, 2, none⟩ (.slice none 0 0)) R 24 #[.int .i64 0, .slice none 0 0, .slice none 0 0]) := Lib.hid (((HWx.out.set 0 _).set 1 _).set 2 _)
  have HBe : Hid (Below w.heap.size w (((W1.setCell ⟨R, 0, none⟩ (.int .i64 0)).setCell ⟨R, 1, none⟩ (.slice none 0 0)).setCell ⟨R, 2, none⟩ (.slice none 0 0))) := Lib.hid (((HBx.out.setCell (p := ⟨R, 0, none⟩) hRw _).setCell (p := ⟨R, 1, none⟩) hRw _).setCell (p := ⟨R, 2, none⟩) hRw _)
  generalize (((W1.setCell ⟨R, 0, none⟩ (.int .i64 0)).setCell ⟨R, 1, none⟩ (.slice none 0 0)).setCell ⟨R, 2, none⟩ (.slice none 0 0)) = W2 at HWe HBe ⊢
  have d0 : W2.cell? ⟨R, 0, none⟩ = some (.int .i64 0) := HWe.out.cell 0
  have d1 : W2.cell? ⟨R, 1, none⟩ = some (.slice none 0 0) := HWe.out.cell 1
  have d2 : W2.cell? ⟨R, 2, none⟩ = some (.slice none 0 0) := HWe.out.cell 2
  refine bodyPost_ret (v := noSeal) (by simp [results, Tryd.results15, go_sem, noSeal, d0, d1, d2]) rfl ⟨rfl, HBe.out⟩

set_option maxRecDepth 100000 in
set_option maxHeartbeats 4000000 in
theorem sign_bad3 (sec msg : ByteArray) (h : Nat) (hh : h ≤ 8) (idx : Int) (hi : 0 ≤ idx) (hi2 : ((2 ^ h : Nat) : Int) ≤ idx) (w : World) :
    Calls Tryd.prog 15 #[.string sec, .int .i64 h, .int .i64 idx, .string msg] w fun e w' => e = .returned noSeal ∧ Below w.heap.size w w' := by
  have HI : Hid (∀ w, Calls Tryd.prog 26 #[.int .i64 h] w fun e w' => e = .returned (.bool true) ∧ w = w') := Lib.hid fun w => by
    have := isHeight_any h w
    rw [decide_eq_true (show (0 : Int) ≤ h by omega), decide_eq_true (show (h : Int) ≤ 8 by omega)] at this
    exact this
  obtain ⟨N, HN⟩ : ∃ N, Hid (N = 2 ^ h) := ⟨_, Lib.hid rfl⟩
  have hN : wrap64 ((2 : Int) ^ h) = (N : Int) := by rw [HN.out]; exact wrap_pow h hh
  rw [← HN.out] at hi2
  have hh8 : (h : Int) ≤ 8 := by omega
  have d0 : decide (idx < 0) = false := decide_eq_false (by omega)
  have d1 : decide ((N : Int) ≤ idx) = true := decide_eq_true hi2
  clear hi hi2
  go_enter Tryd.func15, Tryd.ntmps15
  go_wp2_with fail
  obtain ⟨W0, HW0⟩ : ∃ x, Hid (x = ((w.alloc (.cells #[.string sec] 9)).alloc (.cells #[.int .i64 idx] 3)).alloc (.cells #[.int .i64 0, .slice none 0 0, .slice none 0 0] 24)) := ⟨_, Lib.hid rfl⟩
  have HB0 : Hid (Below w.heap.size w W0) := Lib.hid (by
    rw [HW0.out]
    exact (((Below.refl _ _).alloc (Nat.le_refl _) _).alloc (by rw [size_alloc]; omega) _).alloc (by rw [size_alloc, size_alloc]; omega) _)
  have hz0 : W0.heap.size = w.heap.size + 1 + 1 + 1 := by rw [HW0.out]; simp
  have a1 : W0.cell? ⟨w.heap.size + 1, 0, none⟩ = some (.int .i64 idx) := by rw [HW0.out]; simp [cell_alloc]
  have HWr : Hid (Whole W0 (w.heap.size + 1 + 1) 24 #[.int .i64 0, .slice none 0 0, .slice none 0 0]) := Lib.hid (by
    rw [HW0.out]
    have := Whole.new ((w.alloc (.cells #[.string sec] 9)).alloc (.cells #[.int .i64 idx] 3)) 24 #[.int .i64 0, .slice none 0 0, .slice none 0 0]
    rwa [size_alloc, size_alloc] at this)
  rw [← HW0.out]
  have e1 : ∀ X : Grown W0, X.w.cell? ⟨w.heap.size + 1, 0, none⟩ = some (.int .i64 idx) := fun X => by rw [X.cell (by omega)]; exact a1
  refine wp_region_grown (by kernel_rfl) (by kernel_rfl) ?_
  repeat (go_big_quiet_step (exact grown_of_same (HI.out _)))
  refine wpQuiet_nil ?_
  rintro _ ⟨X, rfl⟩
  have HWx : Hid (Whole X.w (w.heap.size + 1 + 1) 24 #[.int .i64 0, .slice none 0 0, .slice none 0 0]) := Lib.hid ((X.below.block _ HWr.out.lt).trans HWr.out)
  have HBx : Hid (Below w.heap.size w X.w) := Lib.hid (HB0.out.trans (X.below.mono HB0.out.size))
  obtain ⟨W1, HW1⟩ : ∃ y, Hid (y = X.w) := ⟨_, Lib.hid rfl⟩
  rw [← HW1.out] at HWx HBx ⊢
  obtain ⟨R, HR⟩ : ∃ y, Hid (y = w.heap.size + 1 + 1) := ⟨_, Lib.hid rfl⟩
  rw [← HR.out] at HWx ⊢
  have c0 : W1.cell? ⟨R, 0, none⟩ = some (.int .i64 0) := HWx.out.cell 0
  have c1 : W1.cell? ⟨R, 1, none⟩ = some (.slice none 0 0) := HWx.out.cell 1
  have c2 : W1.cell? ⟨R, 2, none⟩ = some (.slice none 0 0) := HWx.out.cell 2
  have f0 := HWx.out.frozen 0
  have f1 := HWx.out.frozen 1
  have f2 := HWx.out.frozen 2
  have hRw : w.heap.size ≤ R := by rw [HR.out]; omega
  clear e1 a1
  go_wp2_with fail
  have HWe : Hid (Whole (((W1.setCell ⟨R, 0, none⟩ (.int .i64 0)).setCell ⟨R, 1, none⟩ (.slice none 0 0)).setCell ⟨R, 2, none⟩ (.slice none 0 0)) R 24 #[.int .i64 0, .slice none 0 0, .slice none 0 0]) := Lib.hid (((HWx.out.set 0 _).set 1 _).set 2 _)
  have HBe : Hid (Below w.heap.size w (((W1.setCell ⟨R, 0, none⟩ (.int .i64 0)).setCell ⟨R, 1, none⟩ (.slice none 0 0)).setCell ⟨R, 2, none⟩ (.slice none 0 0))) := Lib.hid (((HBx.out.setCell (p := ⟨R, 0, none⟩) hRw _).setCell (p := ⟨R, 1, none⟩) hRw _).setCell (p := ⟨R, 2, none⟩) hRw _)
  generalize (((W1.setCell ⟨R, 0, none⟩ (.int .i64 0)).setCell ⟨R, 1, none⟩ (.slice none 0 0)).setCell ⟨R, 2, none⟩ (.slice none 0 0)) = W2 at HWe HBe ⊢
  have d0 : W2.cell? ⟨R, 0, none⟩ = some (.int .i64 0) := HWe.out.cell 0
  have d1 : W2.cell? ⟨R, 1, none⟩ = some (.slice none 0 0) := HWe.out.cell 1
  have d2 : W2.cell? ⟨R, 2, none⟩ = some (.slice none 0 0) := HWe.out.cell 2
  refine bodyPost_ret (v := noSeal) (by simp [results, Tryd.results15, go_sem, noSeal, d0, d1, d2]) rfl ⟨rfl, HBe.out⟩

/-- What Sign refuses. -/
theorem sign_bad (sec msg : ByteArray) (h idx : Int) (hb : (decide (0 ≤ h) && decide (h ≤ 8)) = false ∨ idx < 0 ∨ ∃ k : Nat, h = k ∧ k ≤ 8 ∧ ((2 ^ k : Nat) : Int) ≤ idx) (w : World) :
    Calls Tryd.prog 15 #[.string sec, .int .i64 h, .int .i64 idx, .string msg] w fun e w' => e = .returned noSeal ∧ Below w.heap.size w w' := by
  by_cases hh : (decide (0 ≤ h) && decide (h ≤ 8)) = false
  · exact sign_bad1 sec msg h idx hh w
  · rw [Bool.not_eq_false, Bool.and_eq_true] at hh
    obtain ⟨k, rfl⟩ : ∃ k : Nat, h = k := ⟨h.toNat, by have := of_decide_eq_true hh.1; omega⟩
    have hk : k ≤ 8 := by have := of_decide_eq_true hh.2; omega
    by_cases h0 : idx < 0
    · exact sign_bad2 sec msg k hk idx h0 w
    · rcases hb with hb | hb | ⟨j, hj, h8, h2⟩
      · rw [hh.1, hh.2] at hb; cases hb
      · exact absurd hb h0
      · obtain rfl : k = j := by omega
        exact sign_bad3 sec msg k hk idx (by omega) h2 w

end Go.Proofs.YtfnbdjjobndgfaaDoor
