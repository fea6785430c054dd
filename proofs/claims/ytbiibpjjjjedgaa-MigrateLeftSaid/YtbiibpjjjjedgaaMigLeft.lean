/- The statement on what is left of a life: its walk. -/
import Derived.Test.YtbiibpjjjjedgaaMigHead
namespace Go.Proofs.Ytbiibpjjjjedgaa
open Go.RowKit

theorem left_eq_bad {l h c : Int} (hok : Mig.leftOk l h c = false) (w : World) :
    Calls Try.prog 15 #[.agg #[.int .i64 l, .int .i64 h], .int .i64 c] w fun e w' => e = .returned (.tuple #[.agg #[.int .i64 0, .int .i64 0], .int .i64 1]) ∧ Below w.heap.size w w' := left_bad l h c hok w

set_option maxRecDepth 100000 in
set_option maxHeartbeats 4000000 in
theorem lawLeft_bad (l h c : Int) (hok : Mig.leftOk l h c = false) (w : World) :
    Calls Try.prog 8 #[.agg #[.int .i64 l, .int .i64 h], .int .i64 c] w fun e w' => e = .returned (.bool true) ∧ Below w.heap.size w w' := by
  have HL := Lib.hid (fun w => left_eq_bad hok w)
  clear hok
  go_enter Try.func8, Try.ntmps8
  go_wp2_with fail
  refine (head25_any _).mono ?_
  rintro e v1 ⟨rfl, hb⟩
  obtain ⟨hc, hd⟩ := bcell hb
  go_wp2_with fail
  refine (HL.out _).mono ?_
  rintro e v2 ⟨rfl, h⟩
  replace hb := hb.trans (h.mono hb.size)
  clear h hc hd
  obtain ⟨hc, hd⟩ := bcell hb
  go_wp2_with fail
  have hz := hb.size
  rw [size_alloc] at hz
  have hB : Below w.heap.size w v2 := ((Below.refl _ _).alloc (Nat.le_refl _) _).trans (hb.mono (by rw [size_alloc]; omega))
  have hB2 : Below w.heap.size w (v2.alloc (.cells #[.int .i64 0, .int .i64 0] 23)) := hB.alloc hB.size _
  have q1 : (v2.alloc (.cells #[.int .i64 0, .int .i64 0] 23)).cell? ⟨v2.heap.size, 0, none⟩ = some (.int .i64 0) := by rw [cell_alloc, if_pos rfl]; rfl
  have q2 : (v2.alloc (.cells #[.int .i64 0, .int .i64 0] 23)).cell? ⟨v2.heap.size, 1, none⟩ = some (.int .i64 0) := by rw [cell_alloc, if_pos rfl]; rfl
  have z6 : (v2.alloc (.cells #[.int .i64 0, .int .i64 0] 23)).heap.size = v2.heap.size + 1 := size_alloc _ _
  obtain ⟨W7, HW7⟩ : ∃ W7, Hid (W7 = v2.alloc (.cells #[.int .i64 0, .int .i64 0] 23)) := ⟨_, Lib.hid rfl⟩
  rw [← HW7.out] at q1 q2 hB2 z6 ⊢
  have r1 : ∀ X : Grown W7, X.w.cell? ⟨v2.heap.size, 0, none⟩ = some (.int .i64 0) := fun X => by rw [X.cell (by omega), q1]
  have r2 : ∀ X : Grown W7, X.w.cell? ⟨v2.heap.size, 1, none⟩ = some (.int .i64 0) := fun X => by rw [X.cell (by omega), q2]
  clear q1 q2 hb hc hd
  refine wp_region_grown (by kernel_rfl) (by kernel_rfl) ?_
  repeat (go_big_quiet_step ((go_at_call 17; with_reducible exact grown_of (of25_any _ _ _))))
  refine wpQuiet_nil ?_
  rintro _ ⟨X, rfl⟩
  go_wp2
  go_ret
  exact ⟨rfl, hB2.trans (X.below.mono hB2.size)⟩

set_option maxRecDepth 100000 in
set_option maxHeartbeats 4000000 in
theorem lawLeft_ok (l h c : Int) (hok : Mig.leftOk l h c = true) (w : World) :
    Calls Try.prog 8 #[.agg #[.int .i64 l, .int .i64 h], .int .i64 c] w fun e w' => e = .returned (.bool true) ∧ Below w.heap.size w w' := by
  obtain ⟨⟨a1, a2, a3⟩, ⟨b1, b2⟩⟩ := Mig.leftOk_iff.1 hok
  have HL := Lib.hid (fun w => left_ok l h c hok w)
  have Hh := Lib.hid (Mig.left_cases h c)
  have Hl := Lib.hid (Mig.left_cases l c)
  clear hok
  obtain ⟨x, Hx⟩ : ∃ x, Hid (x = Mig.left h c) := ⟨_, Lib.hid rfl⟩
  obtain ⟨y, Hy⟩ : ∃ x, Hid (x = Mig.left l c) := ⟨_, Lib.hid rfl⟩
  rw [← Hx.out] at Hh HL
  rw [← Hy.out] at Hl HL
  have x0 : 0 ≤ x := by have := Hh.out; omega
  have xy : x ≤ y := by have := Hh.out; have := Hl.out; omega
  have yc : y ≤ c := by have := Hl.out; omega
  have Hend : Hid (((y == 0) == decide (c ≤ l)) = true ∧ ((x == 0) == decide (c ≤ h)) = true) := Lib.hid (by
    have := Hh.out; have := Hl.out
    have e1 : (y == 0) = decide (c ≤ l) := by rw [Bool.eq_iff_iff]; simp; omega
    have e2 : (x == 0) = decide (c ≤ h) := by rw [Bool.eq_iff_iff]; simp; omega
    rw [e1, e2]; simp)
  by_cases hc1 : h ≤ c
  all_goals
    have e1 : (h ≤ c → x + h = c) := by have := Hh.out; intro; omega
    have e2 : (h ≤ c → y + l = c) := by have := Hl.out; intro; omega
    have E := Lib.hid (And.intro e1 e2)
    clear e1 e2
    go_enter Try.func8, Try.ntmps8
    go_wp2_with fail
    refine (head25_any _).mono ?_
    rintro e v1 ⟨rfl, hb⟩
    obtain ⟨hc, hd⟩ := bcell hb
    go_wp2_with fail
    refine (HL.out _).mono ?_
    rintro e v2 ⟨rfl, h⟩
    replace hb := hb.trans (h.mono hb.size)
    clear h hc hd
    obtain ⟨hc, hd⟩ := bcell hb
    have f1 := hc w.heap.size 0 (by rw [size_alloc]; omega)
    have f2 := hc w.heap.size 1 (by rw [size_alloc]; omega)
    simp [cell_alloc] at f1 f2
    have hz := hb.size
    rw [size_alloc] at hz
    have hB : Below w.heap.size w v2 := ((Below.refl _ _).alloc (Nat.le_refl _) _).trans (hb.mono (by rw [size_alloc]; omega))
    have g1 : (v2.alloc (.cells #[.int .i64 x, .int .i64 y] 23)).cell? ⟨w.heap.size, 0, none⟩ = some (.int .i64 l) := by rw [cell_alloc, if_neg (by omega), f1]
    have g2 : (v2.alloc (.cells #[.int .i64 x, .int .i64 y] 23)).cell? ⟨w.heap.size, 1, none⟩ = some (.int .i64 h) := by rw [cell_alloc, if_neg (by omega), f2]
    clear hb hc hd f1 f2
    first | (have k1 := E.out.1 hc1; have k2 := E.out.2 hc1) | skip
    obtain ⟨e1, e2⟩ := Hend.out
    go_wp2
    all_goals
      go_ret
      exact ⟨rfl, hB.alloc hB.size _⟩

theorem lawLeft_any (l h c : Int) (w : World) :
    Calls Try.prog 8 #[.agg #[.int .i64 l, .int .i64 h], .int .i64 c] w fun e w' => e = .returned (.bool true) ∧ Below w.heap.size w w' := by
  cases hok : Mig.leftOk l h c
  · exact lawLeft_bad l h c hok w
  · exact lawLeft_ok l h c hok w

end Go.Proofs.Ytbiibpjjjjedgaa
