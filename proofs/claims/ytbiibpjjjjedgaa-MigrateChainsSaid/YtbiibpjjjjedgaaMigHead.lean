/- The walks of migrate.Left, and of the fixed examples over package migrate. -/
import Derived.Test.YtbiibpjjjjedgaaMigChain
import Derived.Test.YtbiibpjjjjedgaaGrown
namespace Go.Proofs.Ytbiibpjjjjedgaa
open Go.RowKit

def Mig.leftOk (l h c : Int) : Bool := Mig.usedB l h && Mig.limB c
def Mig.leftLo (l h c : Int) : Int := if Mig.leftOk l h c then Mig.left h c else 0
def Mig.leftHi (l h c : Int) : Int := if Mig.leftOk l h c then Mig.left l c else 0
theorem Mig.left_cases (n c : Int) : (c - n < 0 ∧ Mig.left n c = 0) ∨ (0 ≤ c - n ∧ Mig.left n c = c - n) := by
  unfold Mig.left; have := Ivl.imax_cases (c - n) 0; omega
theorem Mig.leftOk_iff {l h c : Int} : Mig.leftOk l h c = true ↔ (0 ≤ l ∧ l ≤ h ∧ h ≤ 1000000000000) ∧ (1 ≤ c ∧ c ≤ 1000000000000) := by
  unfold Mig.leftOk; rw [Bool.and_eq_true, Mig.used_iff, Mig.lim_iff]

set_option maxHeartbeats 2000000 in
theorem left_bad (l h c : Int) (hok : Mig.leftOk l h c = false) (w : World) :
    Calls Try.prog 15 #[.agg #[.int .i64 l, .int .i64 h], .int .i64 c] w
      fun e w' => e = .returned (.tuple #[.agg #[.int .i64 0, .int .i64 0], .int .i64 1]) ∧ Below w.heap.size w w' := by
  unfold Mig.leftOk at hok
  cases hu : Mig.usedB l h
  · clear hok
    go_enter Try.func15, Try.ntmps15
    go_wp2_with fail
    refine (isUsed_any _ _ _).mono ?_
    rintro e w1 ⟨rfl, hb⟩
    obtain ⟨⟨f1, f2⟩, ⟨f3, f4, f5, f6⟩, hz, hbw⟩ := mig_cells hb
    clear hb
    go_wp2
    refine bodyPost_ret (v := .tuple #[.agg #[.int .i64 0, .int .i64 0], .int .i64 1]) (by simp [results, Try.results15, go_sem, f3, f4]) rfl ⟨rfl, ?_⟩
    exact (hbw.setCell (by show w.heap.size ≤ w.heap.size + 1; omega) _).setCell (by show w.heap.size ≤ w.heap.size + 1; omega) _
  · rw [hu] at hok
    have hl : Mig.limB c = false := by simpa using hok
    clear hok
    go_enter Try.func15, Try.ntmps15
    go_wp2_with fail
    refine (isUsed_any _ _ _).mono ?_
    rintro e w1 ⟨rfl, hb⟩
    obtain ⟨⟨f1, f2⟩, ⟨f3, f4, f5, f6⟩, hz, hbw⟩ := mig_cells hb
    clear hb
    go_wp2_with fail
    refine (isLimit_any _ _).mono ?_
    rintro e w' ⟨rfl, rfl⟩
    go_wp2
    refine bodyPost_ret (v := .tuple #[.agg #[.int .i64 0, .int .i64 0], .int .i64 1]) (by simp [results, Try.results15, go_sem, f3, f4]) rfl ⟨rfl, ?_⟩
    exact (hbw.setCell (by show w.heap.size ≤ w.heap.size + 1; omega) _).setCell (by show w.heap.size ≤ w.heap.size + 1; omega) _

set_option maxHeartbeats 2000000 in
theorem left_ok (l h c : Int) (hok : Mig.leftOk l h c = true) (w : World) :
    Calls Try.prog 15 #[.agg #[.int .i64 l, .int .i64 h], .int .i64 c] w
      fun e w' => e = .returned (.tuple #[.agg #[.int .i64 (Mig.left h c), .int .i64 (Mig.left l c)], .int .i64 0]) ∧ Below w.heap.size w w' := by
  obtain ⟨⟨a1, a2, a3⟩, ⟨b1, b2⟩⟩ := Mig.leftOk_iff.1 hok
  have hu : Mig.usedB l h = true := Mig.used_iff.2 ⟨a1, a2, a3⟩
  have hl : Mig.limB c = true := Mig.lim_iff.2 ⟨b1, b2⟩
  have Hh := Lib.hid (Mig.left_cases h c)
  have Hl := Lib.hid (Mig.left_cases l c)
  clear hok
  obtain ⟨x, Hx⟩ : ∃ x, Hid (x = Mig.left h c) := ⟨_, Lib.hid rfl⟩
  obtain ⟨y, Hy⟩ : ∃ x, Hid (x = Mig.left l c) := ⟨_, Lib.hid rfl⟩
  rw [← Hx.out] at Hh ⊢
  rw [← Hy.out] at Hl ⊢
  go_enter Try.func15, Try.ntmps15
  go_wp2_with fail
  refine (isUsed_any _ _ _).mono ?_
  rintro e w1 ⟨rfl, hb⟩
  obtain ⟨⟨f1, f2⟩, ⟨f3, f4, f5, f6⟩, hz, hbw⟩ := mig_cells hb
  clear hb
  go_wp2_with fail
  refine (isLimit_any _ _).mono ?_
  rintro e w' ⟨rfl, rfl⟩
  have Ex : Hid (max (c - h) 0 = x) := Lib.hid (by have := Hh.out; omega)
  have Ey : Hid (max (c - l) 0 = y) := Lib.hid (by have := Hl.out; omega)
  go_wp2
  · rw [Ex.out, Ey.out]
    refine bodyPost_ret (v := .tuple #[.agg #[.int .i64 x, .int .i64 y], .int .i64 0]) (by simp [results, Try.results15, go_sem, f3, f4]) rfl ⟨rfl, ?_⟩
    exact (hbw.setCell (by show w.heap.size ≤ w.heap.size + 1; omega) _).setCell (by show w.heap.size ≤ w.heap.size + 1; omega) _

theorem left_any (l h c : Int) (w : World) :
    Calls Try.prog 15 #[.agg #[.int .i64 l, .int .i64 h], .int .i64 c] w
      fun e w' => e = .returned (.tuple #[.agg #[.int .i64 (Mig.leftLo l h c), .int .i64 (Mig.leftHi l h c)], .int .i64 (Mig.leftErr l h c)]) ∧ Below w.heap.size w w' := by
  have e : Mig.leftErr l h c = if Mig.leftOk l h c then 0 else 1 := rfl
  unfold Mig.leftLo Mig.leftHi
  rw [e]
  cases hok : Mig.leftOk l h c
  · exact left_bad l h c hok w
  · exact left_ok l h c hok w

theorem of25_any (l h : Int) (w : World) :
    Calls Try.prog 17 #[.int .i64 l, .int .i64 h] w fun e w' => e = .returned (.agg #[.int .i64 l, .int .i64 h]) ∧ Below w.heap.size w w' := by
  go_enter Try.func17, Try.ntmps17
  go_wp2
  refine bodyPost_ret (v := .agg #[.int .i64 l, .int .i64 h]) (by simp [results, Try.results17, go_sem]) rfl ⟨rfl, ?_⟩
  exact (Below.refl _ _).alloc (Nat.le_refl _) _

theorem eg_scale (w : World) : Calls Try.prog 11 #[.agg #[.int .i64 100, .int .i64 101], .int .i64 300, .int .i64 10] w fun e w' => e = .returned (.tuple #[.agg #[.int .i64 3, .int .i64 4], .int .i64 0]) ∧ Below w.heap.size w w' := by
  have := scale_any 100 101 300 10 w
  rwa [show Mig.lo 100 101 300 10 = 3 by decide, show Mig.hi 100 101 300 10 = 4 by decide, show Mig.err 100 101 300 10 = 0 by decide] at this
theorem eg_left (w : World) : Calls Try.prog 15 #[.agg #[.int .i64 90, .int .i64 130], .int .i64 100] w fun e w' => e = .returned (.tuple #[.agg #[.int .i64 0, .int .i64 10], .int .i64 0]) ∧ Below w.heap.size w w' := by
  have := left_any 90 130 100 w
  rwa [show Mig.leftLo 90 130 100 = 0 by decide, show Mig.leftHi 90 130 100 = 10 by decide, show Mig.leftErr 90 130 100 = 0 by decide] at this
theorem eg_chain (b cap : Nat) (w : World) (hb : b < w.heap.size) (h0 : w.cell? ⟨b, 0, none⟩ = some (.int .i64 100)) (h1 : w.cell? ⟨b, 1, none⟩ = some (.int .i64 3)) (h2 : w.cell? ⟨b, 2, none⟩ = some (.int .i64 100)) :
    Calls Try.prog 13 #[.agg #[.int .i64 50, .int .i64 50], .slice (some ⟨b, 0, none⟩) 3 cap] w fun e w' => e = .returned (.tuple #[.agg #[.int .i64 33, .int .i64 67], .int .i64 0]) ∧ Below w.heap.size w w' := by
  have := chain_any 50 50 [100, 3, 100] (by decide) (some ⟨b, 0, none⟩) cap w (Or.inr ⟨b, 0, rfl, hb, fun k hk => by
    have hc : k = 0 ∨ k = 1 ∨ k = 2 := by simp at hk; omega
    rcases hc with rfl | rfl | rfl
    · exact h0
    · exact h1
    · exact h2⟩)
  rwa [show Mig.chain 50 50 [100, 3, 100] = (33, 67, 0) by decide] at this

set_option maxRecDepth 100000 in
set_option maxHeartbeats 4000000 in
theorem head25_any (w : World) :
    Calls Try.prog 10 #[] w fun e w' => e = .returned (.bool true) ∧ Below w.heap.size w w' := by
  go_enter Try.func10, Try.ntmps10
  go_wp2_with fail
  refine (of25_any _ _ _).mono ?_
  rintro e w1 ⟨rfl, hb1⟩
  replace hb1 := hb1
  go_wp2_with fail
  refine (eg_scale _).mono ?_
  rintro e w2 ⟨rfl, hb2⟩
  replace hb2 : Below w.heap.size w w2 := hb1.trans (hb2.mono hb1.size)
  clear hb1
  go_wp2_with fail
  refine (of25_any _ _ _).mono ?_
  rintro e w3 ⟨rfl, hb3⟩
  obtain ⟨hc3, hd3⟩ := bcell hb3
  have z2 := hb3.size
  simp only [size_alloc] at z2
  have a1 := hc3 w2.heap.size 0 (by simp only [size_alloc]; omega)
  have a2 := hc3 w2.heap.size 1 (by simp only [size_alloc]; omega)
  simp [cell_alloc] at a1 a2
  have hb4 : Below w.heap.size w w3 := (hb2.alloc hb2.size _).trans (hb3.mono (by simp only [size_alloc]; have := hb2.size; omega))
  clear hb2 hb3 hc3 hd3
  go_wp2_with fail
  refine (eg_chain _ _ _ (by simp) (by simp [cell_alloc]) (by simp [cell_alloc]) (by simp [cell_alloc])).mono ?_
  rintro e w4 ⟨rfl, hb5⟩
  have z3 := hb5.size
  rw [size_alloc] at z3
  have b1 : w4.cell? ⟨w2.heap.size, 0, none⟩ = some (.int .i64 3) := by rw [hb5.cell (by rw [size_alloc]; show w2.heap.size < _; omega), cell_alloc, if_neg (by omega), a1]
  have b2 : w4.cell? ⟨w2.heap.size, 1, none⟩ = some (.int .i64 4) := by rw [hb5.cell (by rw [size_alloc]; show w2.heap.size < _; omega), cell_alloc, if_neg (by omega), a2]
  have hb6 : Below w.heap.size w w4 := (hb4.alloc hb4.size _).trans (hb5.mono (by rw [size_alloc]; have := hb4.size; omega))
  clear hb4 hb5 a1 a2
  go_wp2_with fail
  refine (of25_any _ _ _).mono ?_
  rintro e w5 ⟨rfl, hb7⟩
  obtain ⟨hc3, hd3⟩ := bcell hb7
  have z4 := hb7.size
  simp only [size_alloc] at z4
  have c1 := hc3 w4.heap.size 0 (by simp only [size_alloc]; omega)
  have c2 := hc3 w4.heap.size 1 (by simp only [size_alloc]; omega)
  have a1 := hc3 w2.heap.size 0 (by simp only [size_alloc]; omega)
  have a2 := hc3 w2.heap.size 1 (by simp only [size_alloc]; omega)
  have hb8 : Below w.heap.size w w5 := (hb6.alloc hb6.size _).trans (hb7.mono (by simp only [size_alloc]; have := hb6.size; omega))
  simp [cell_alloc] at c1 c2
  rw [cell_alloc, if_neg (by omega), b1] at a1
  rw [cell_alloc, if_neg (by omega), b2] at a2
  clear hb6 hb7 hc3 hd3 b1 b2
  go_wp2_with fail
  refine (eg_left _).mono ?_
  rintro e w6 ⟨rfl, hb7⟩
  have z5 := hb7.size
  have d1 : w6.cell? ⟨w2.heap.size, 0, none⟩ = some (.int .i64 3) := by rw [hb7.cell (by show w2.heap.size < _; omega), a1]
  have d2 : w6.cell? ⟨w2.heap.size, 1, none⟩ = some (.int .i64 4) := by rw [hb7.cell (by show w2.heap.size < _; omega), a2]
  have d3 : w6.cell? ⟨w4.heap.size, 0, none⟩ = some (.int .i64 33) := by rw [hb7.cell (by show w4.heap.size < _; omega), c1]
  have d4 : w6.cell? ⟨w4.heap.size, 1, none⟩ = some (.int .i64 67) := by rw [hb7.cell (by show w4.heap.size < _; omega), c2]
  have hb9 : Below w.heap.size w w6 := hb8.trans (hb7.mono hb8.size)
  clear hb7 hb8 a1 a2 c1 c2
  go_wp2_with fail
  have hb10 : Below w.heap.size w (w6.alloc (.cells #[.int .i64 0, .int .i64 10] 23)) := hb9.alloc hb9.size _
  have z6 : (w6.alloc (.cells #[.int .i64 0, .int .i64 10] 23)).heap.size = w6.heap.size + 1 := size_alloc _ _
  have q1 : (w6.alloc (.cells #[.int .i64 0, .int .i64 10] 23)).cell? ⟨w2.heap.size, 0, none⟩ = some (.int .i64 3) := by rw [cell_alloc, if_neg (by omega), d1]
  have q2 : (w6.alloc (.cells #[.int .i64 0, .int .i64 10] 23)).cell? ⟨w2.heap.size, 1, none⟩ = some (.int .i64 4) := by rw [cell_alloc, if_neg (by omega), d2]
  have q3 : (w6.alloc (.cells #[.int .i64 0, .int .i64 10] 23)).cell? ⟨w4.heap.size, 0, none⟩ = some (.int .i64 33) := by rw [cell_alloc, if_neg (by omega), d3]
  have q4 : (w6.alloc (.cells #[.int .i64 0, .int .i64 10] 23)).cell? ⟨w4.heap.size, 1, none⟩ = some (.int .i64 67) := by rw [cell_alloc, if_neg (by omega), d4]
  have q5 : (w6.alloc (.cells #[.int .i64 0, .int .i64 10] 23)).cell? ⟨w6.heap.size, 0, none⟩ = some (.int .i64 0) := by rw [cell_alloc, if_pos rfl]; rfl
  have q6 : (w6.alloc (.cells #[.int .i64 0, .int .i64 10] 23)).cell? ⟨w6.heap.size, 1, none⟩ = some (.int .i64 10) := by rw [cell_alloc, if_pos rfl]; rfl
  obtain ⟨W7, HW7⟩ : ∃ W7, Hid (W7 = w6.alloc (.cells #[.int .i64 0, .int .i64 10] 23)) := ⟨_, Lib.hid rfl⟩
  rw [← HW7.out] at q1 q2 q3 q4 q5 q6 hb10 z6 ⊢
  clear d1 d2 d3 d4 hb9
  have r1 : ∀ X : Grown W7, X.w.cell? ⟨w2.heap.size, 0, none⟩ = some (.int .i64 3) := fun X => by rw [X.cell (by omega), q1]
  have r2 : ∀ X : Grown W7, X.w.cell? ⟨w2.heap.size, 1, none⟩ = some (.int .i64 4) := fun X => by rw [X.cell (by omega), q2]
  have r3 : ∀ X : Grown W7, X.w.cell? ⟨w4.heap.size, 0, none⟩ = some (.int .i64 33) := fun X => by rw [X.cell (by omega), q3]
  have r4 : ∀ X : Grown W7, X.w.cell? ⟨w4.heap.size, 1, none⟩ = some (.int .i64 67) := fun X => by rw [X.cell (by omega), q4]
  have r5 : ∀ X : Grown W7, X.w.cell? ⟨w6.heap.size, 0, none⟩ = some (.int .i64 0) := fun X => by rw [X.cell (by omega), q5]
  have r6 : ∀ X : Grown W7, X.w.cell? ⟨w6.heap.size, 1, none⟩ = some (.int .i64 10) := fun X => by rw [X.cell (by omega), q6]
  clear q1 q2 q3 q4 q5 q6
  refine wp_region_grown (by kernel_rfl) (by kernel_rfl) ?_
  repeat (go_big_quiet_step ((go_at_call 17; with_reducible exact grown_of (of25_any _ _ _))))
  refine wpQuiet_nil ?_
  rintro _ ⟨X, rfl⟩
  go_wp2
  go_ret
  exact ⟨rfl, hb10.trans (X.below.mono hb10.size)⟩

end Go.Proofs.Ytbiibpjjjjedgaa
