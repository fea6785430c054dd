/- The walks of package day: lengths of months, and the counter of days. -/
import Derived.Test.YthnipdcdiffioabDoorBase
import Derived.Test.YthnipdcdiffioabDoorDayMath
import Derived.Lib.LaidTab
import Derived.Lib.AppendIntMem
import Derived.Deep.QuietTactic
import Derived.BigQuiet
namespace Go.Proofs.YthnipdcdiffioabDoor
open Go.RowKit

/-- The table of the lengths of months, in a world. -/
def MTab (w : World) : Prop := Lib.TabIs Tryd.prog w "bogie/day.monthLengths" .i64 [31, 28, 31, 30, 31, 30, 31, 31, 30, 31, 30, 31]
theorem MTab.below {w w' : World} (h : MTab w) (hb : Below w.heap.size w w') : MTab w' := Lib.tabBelow_of_tabIs h w' hb
theorem MTab.at (w : World) (h : MTab w) (i : Nat) (hi : i < 12) : w.cell? ⟨0, i, none⟩ = some (.int .i64 ([31, 28, 31, 30, 31, 30, 31, 31, 30, 31, 30, 31].getD i 0)) :=
  Lib.TabIs.cell h (by kernel_rfl) i hi
theorem MTab.lt {w : World} (h : MTab w) : 0 < w.heap.size := by
  have := h.at w 0 (by decide)
  rcases Nat.lt_or_ge 0 w.heap.size with h' | h'
  · exact h'
  · unfold World.cell? at this; simp [Array.getElem?_eq_none h'] at this

theorem tmod_zero (y k : Int) : y.tmod k = 0 ↔ y % k = 0 := by
  rw [← Int.dvd_iff_tmod_eq_zero, ← Int.dvd_iff_emod_eq_zero]
set_option maxHeartbeats 1000000 in
theorem isLeap_any (y : Int) (w : World) :
    Calls Tryd.prog 33 #[.int .i64 y] w fun e w' => e = .returned (.bool (Cal.leapB y)) ∧ w = w' := by
  have k4 := tmod_zero y 4
  have k100 := tmod_zero y 100
  have k400 := tmod_zero y 400
  obtain ⟨b, Hb⟩ : ∃ b, Hid (b = Cal.leapB y) := ⟨_, Lib.hid rfl⟩
  have hb : b = true ↔ ((y.tmod 4 = 0 ∧ ¬ y.tmod 100 = 0) ∨ y.tmod 400 = 0) := by rw [Hb.out, k4, k100, k400]; unfold Cal.leapB; exact decide_eq_true_iff
  rw [← Hb.out]
  have HB := Lib.hid hb
  clear hb k4 k100 k400 Hb
  by_cases h4 : (y.tmod 4 == 0) = true
  · by_cases h100 : (y.tmod 100 != 0) = true
    · go_enter Tryd.func33, Tryd.ntmps33
      go_wp2
      go_ret
      exact ⟨ret_bool (HB.out.2 (Or.inl ⟨by simpa using h4, by simpa using h100⟩)).symm, rfl⟩
    · have h100' : (y.tmod 100 != 0) = false := by simpa using h100
      by_cases h400 : (y.tmod 400 == 0) = true
      · go_enter Tryd.func33, Tryd.ntmps33
        go_wp2
        go_ret
        exact ⟨ret_bool (HB.out.2 (Or.inr (by simpa using h400))).symm, rfl⟩
      · have h400' : (y.tmod 400 == 0) = false := by simpa using h400
        go_enter Tryd.func33, Tryd.ntmps33
        go_wp2
        go_ret
        refine ⟨ret_bool ?_, rfl⟩
        cases b
        · rfl
        · have := HB.out.1 rfl; simp at h100' h400'; omega
  · have h4' : (y.tmod 4 == 0) = false := by simpa using h4
    by_cases h400 : (y.tmod 400 == 0) = true
    · go_enter Tryd.func33, Tryd.ntmps33
      go_wp2
      go_ret
      exact ⟨ret_bool (HB.out.2 (Or.inr (by simpa using h400))).symm, rfl⟩
    · have h400' : (y.tmod 400 == 0) = false := by simpa using h400
      go_enter Tryd.func33, Tryd.ntmps33
      go_wp2
      go_ret
      refine ⟨ret_bool ?_, rfl⟩
      cases b
      · rfl
      · have := HB.out.1 rfl; simp at h4' h400'; omega

set_option maxHeartbeats 2000000 in
theorem length_any (y m : Int) (h1 : 1 ≤ m) (h2 : m ≤ 12) (w : World) (hT : MTab w) :
    Calls Tryd.prog 22 #[.int .i64 y, .int .i64 m] w fun e w' => e = .returned (.int .i64 (Cal.mlen y m)) ∧ w = w' := by
  have hat := hT.at w
  by_cases h : m = 2
  · subst h
    have c := hat 1 (by decide)
    simp at c
    clear hat hT
    cases hl : Cal.leapB y
    · have Hm : Hid (Cal.mlen y 2 = 28) := by refine Lib.hid ?_; unfold Cal.mlen; rw [hl]; rfl
      go_enter Tryd.func22, Tryd.ntmps22
      go_wp2_with (go_at_call 33; refine (isLeap_any _ _).mono ?_; rintro e w' ⟨rfl, rfl⟩)
      go_ret
      exact ⟨ret_int Hm.out.symm, rfl⟩
    · have Hm : Hid (Cal.mlen y 2 = 29) := by refine Lib.hid ?_; unfold Cal.mlen; rw [hl]; rfl
      go_enter Tryd.func22, Tryd.ntmps22
      go_wp2_with (go_at_call 33; refine (isLeap_any _ _).mono ?_; rintro e w' ⟨rfl, rfl⟩)
      go_ret
      exact ⟨ret_int Hm.out.symm, rfl⟩
  · have hc : m = 1 ∨ m = 3 ∨ m = 4 ∨ m = 5 ∨ m = 6 ∨ m = 7 ∨ m = 8 ∨ m = 9 ∨ m = 10 ∨ m = 11 ∨ m = 12 := by omega
    clear h h1 h2
    rcases hc with rfl | rfl | rfl | rfl | rfl | rfl | rfl | rfl | rfl | rfl | rfl
    · have c := hat 0 (by decide)
      simp at c
      clear hat hT
      go_enter Tryd.func22, Tryd.ntmps22
      go_wp2
      go_ret
      exact ⟨rfl, rfl⟩
    · have c := hat 2 (by decide)
      simp at c
      clear hat hT
      go_enter Tryd.func22, Tryd.ntmps22
      go_wp2
      go_ret
      exact ⟨rfl, rfl⟩
    · have c := hat 3 (by decide)
      simp at c
      clear hat hT
      go_enter Tryd.func22, Tryd.ntmps22
      go_wp2
      go_ret
      exact ⟨rfl, rfl⟩
    · have c := hat 4 (by decide)
      simp at c
      clear hat hT
      go_enter Tryd.func22, Tryd.ntmps22
      go_wp2
      go_ret
      exact ⟨rfl, rfl⟩
    · have c := hat 5 (by decide)
      simp at c
      clear hat hT
      go_enter Tryd.func22, Tryd.ntmps22
      go_wp2
      go_ret
      exact ⟨rfl, rfl⟩
    · have c := hat 6 (by decide)
      simp at c
      clear hat hT
      go_enter Tryd.func22, Tryd.ntmps22
      go_wp2
      go_ret
      exact ⟨rfl, rfl⟩
    · have c := hat 7 (by decide)
      simp at c
      clear hat hT
      go_enter Tryd.func22, Tryd.ntmps22
      go_wp2
      go_ret
      exact ⟨rfl, rfl⟩
    · have c := hat 8 (by decide)
      simp at c
      clear hat hT
      go_enter Tryd.func22, Tryd.ntmps22
      go_wp2
      go_ret
      exact ⟨rfl, rfl⟩
    · have c := hat 9 (by decide)
      simp at c
      clear hat hT
      go_enter Tryd.func22, Tryd.ntmps22
      go_wp2
      go_ret
      exact ⟨rfl, rfl⟩
    · have c := hat 10 (by decide)
      simp at c
      clear hat hT
      go_enter Tryd.func22, Tryd.ntmps22
      go_wp2
      go_ret
      exact ⟨rfl, rfl⟩
    · have c := hat 11 (by decide)
      simp at c
      clear hat hT
      go_enter Tryd.func22, Tryd.ntmps22
      go_wp2
      go_ret
      exact ⟨rfl, rfl⟩

set_option maxHeartbeats 1000000 in
theorem isDay_any (n : Int) (w : World) :
    Calls Tryd.prog 25 #[.int .i64 n] w fun e w' => e = .returned (.bool (decide (0 ≤ n) && decide (n ≤ 40000))) ∧ w = w' := by
  by_cases h : 0 ≤ n
  · have hd : decide (0 ≤ n) = true := by simpa using h
    rw [hd, Bool.true_and]
    go_enter Tryd.func25, Tryd.ntmps25
    go_wp2
    go_ret
    exact ⟨rfl, rfl⟩
  · have hd : decide (0 ≤ n) = false := by simpa using h
    rw [hd, Bool.false_and]
    go_enter Tryd.func25, Tryd.ntmps25
    go_wp2
    go_ret
    exact ⟨rfl, rfl⟩

end Go.Proofs.YthnipdcdiffioabDoor
