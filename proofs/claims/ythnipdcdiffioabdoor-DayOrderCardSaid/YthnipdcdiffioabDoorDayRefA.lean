/- The walks of the reference implementation of days: lengths of months, and the date of a day. -/
import Derived.Test.YthnipdcdiffioabDoorDayWalksE
namespace Go.Proofs.YthnipdcdiffioabDoor
open Go.RowKit

set_option maxHeartbeats 1000000 in
theorem refLeap_any (y : Int) (w : World) :
    Calls Tryd.prog 32 #[.int .i64 y] w fun e w' => e = .returned (.bool (Cal.leapB y)) ∧ w = w' := by
  have k4 := tmod_zero y 4
  have k100 := tmod_zero y 100
  have k400 := tmod_zero y 400
  obtain ⟨b, Hb⟩ : ∃ b, Hid (b = Cal.leapB y) := ⟨_, Lib.hid rfl⟩
  have hb : b = true ↔ ((y.tmod 4 = 0 ∧ ¬ y.tmod 100 = 0) ∨ y.tmod 400 = 0) := by rw [Hb.out, k4, k100, k400]; unfold Cal.leapB; exact decide_eq_true_iff
  rw [← Hb.out]
  have HB := Lib.hid hb
  clear hb k4 k100 k400 Hb
  by_cases h4 : (y.tmod 4 == 0) = true
  · by_cases h100 : (y.tmod 100 != 0) = true
    · go_enter Tryd.func32, Tryd.ntmps32
      go_wp2
      go_ret
      exact ⟨ret_bool (HB.out.2 (Or.inl ⟨by simpa using h4, by simpa using h100⟩)).symm, rfl⟩
    · have h100' : (y.tmod 100 != 0) = false := by simpa using h100
      by_cases h400 : (y.tmod 400 == 0) = true
      · go_enter Tryd.func32, Tryd.ntmps32
        go_wp2
        go_ret
        exact ⟨ret_bool (HB.out.2 (Or.inr (by simpa using h400))).symm, rfl⟩
      · have h400' : (y.tmod 400 == 0) = false := by simpa using h400
        go_enter Tryd.func32, Tryd.ntmps32
        go_wp2
        go_ret
        refine ⟨ret_bool ?_, rfl⟩
        cases b
        · rfl
        · have := HB.out.1 rfl; simp at h100' h400'; omega
  · have h4' : (y.tmod 4 == 0) = false := by simpa using h4
    by_cases h400 : (y.tmod 400 == 0) = true
    · go_enter Tryd.func32, Tryd.ntmps32
      go_wp2
      go_ret
      exact ⟨ret_bool (HB.out.2 (Or.inr (by simpa using h400))).symm, rfl⟩
    · have h400' : (y.tmod 400 == 0) = false := by simpa using h400
      go_enter Tryd.func32, Tryd.ntmps32
      go_wp2
      go_ret
      refine ⟨ret_bool ?_, rfl⟩
      cases b
      · rfl
      · have := HB.out.1 rfl; simp at h4' h400'; omega

set_option maxHeartbeats 2000000 in
theorem refLength_any (y m : Int) (w : World) :
    Calls Tryd.prog 21 #[.int .i64 y, .int .i64 m] w fun e w' => e = .returned (.int .i64 (Cal.mlen y m)) ∧ w = w' := by
  by_cases h : m = 2
  · subst h
    cases hl : Cal.leapB y
    · have Hm : Hid (Cal.mlen y 2 = 28) := by refine Lib.hid ?_; unfold Cal.mlen; rw [hl]; rfl
      go_enter Tryd.func21, Tryd.ntmps21
      go_wp2_with (go_at_call 32; refine (refLeap_any _ _).mono ?_; rintro e w' ⟨rfl, rfl⟩)
      go_ret
      exact ⟨ret_int Hm.out.symm, rfl⟩
    · have Hm : Hid (Cal.mlen y 2 = 29) := by refine Lib.hid ?_; unfold Cal.mlen; rw [hl]; rfl
      go_enter Tryd.func21, Tryd.ntmps21
      go_wp2_with (go_at_call 32; refine (refLeap_any _ _).mono ?_; rintro e w' ⟨rfl, rfl⟩)
      go_ret
      exact ⟨ret_int Hm.out.symm, rfl⟩
  · have h2 : (m == 2) = false := by simp [h]
    have hc : m = 4 ∨ m = 6 ∨ m = 9 ∨ m = 11 ∨ (m ≠ 4 ∧ m ≠ 6 ∧ m ≠ 9 ∧ m ≠ 11) := by omega
    rcases hc with rfl | rfl | rfl | rfl | ⟨a1, a2, a3, a4⟩
    · go_enter Tryd.func21, Tryd.ntmps21
      go_wp2
      go_ret
      exact ⟨rfl, rfl⟩
    · go_enter Tryd.func21, Tryd.ntmps21
      go_wp2
      go_ret
      exact ⟨rfl, rfl⟩
    · go_enter Tryd.func21, Tryd.ntmps21
      go_wp2
      go_ret
      exact ⟨rfl, rfl⟩
    · go_enter Tryd.func21, Tryd.ntmps21
      go_wp2
      go_ret
      exact ⟨rfl, rfl⟩
    · have Hm : Hid (Cal.mlen y m = 31) := by refine Lib.hid ?_; unfold Cal.mlen; rw [if_neg h, if_neg (by omega)]
      have b1 : (m == 4) = false := by simp [a1]
      have b2 : (m == 6) = false := by simp [a2]
      have b3 : (m == 9) = false := by simp [a3]
      have b4 : (m == 11) = false := by simp [a4]
      clear h a1 a2 a3 a4
      go_enter Tryd.func21, Tryd.ntmps21
      go_wp2
      go_ret
      exact ⟨ret_int Hm.out.symm, rfl⟩

set_option maxHeartbeats 1000000 in
theorem refIs_any (n : Int) (w : World) :
    Calls Tryd.prog 20 #[.int .i64 n] w fun e w' => e = .returned (.bool (decide (0 ≤ n) && decide (n ≤ 40000))) ∧ w = w' := by
  by_cases h : 0 ≤ n
  · have hd : decide (0 ≤ n) = true := by simpa using h
    rw [hd, Bool.true_and]
    go_enter Tryd.func20, Tryd.ntmps20
    go_wp2
    go_ret
    exact ⟨rfl, rfl⟩
  · have hd : decide (0 ≤ n) = false := by simpa using h
    rw [hd, Bool.false_and]
    go_enter Tryd.func20, Tryd.ntmps20
    go_wp2
    go_ret
    exact ⟨rfl, rfl⟩

theorem refIs_val (n : Int) (v : Bool) (h : (decide (0 ≤ n) && decide (n ≤ 40000)) = v) (w : World) :
    Calls Tryd.prog 20 #[.int .i64 n] w fun e w' => e = .returned (.bool v) ∧ w = w' := by
  have := refIs_any n w
  rwa [h] at this

theorem dayIn_false {n : Int} (h : ¬ (0 ≤ n ∧ n ≤ 40000)) : (decide (0 ≤ n) && decide (n ≤ 40000)) = false := by
  rw [Bool.and_eq_false_iff]
  by_cases h0 : 0 ≤ n
  · exact Or.inr (decide_eq_false (by omega))
  · exact Or.inl (decide_eq_false h0)
theorem dayIn_true {n : Int} (h : 0 ≤ n ∧ n ≤ 40000) : (decide (0 ≤ n) && decide (n ≤ 40000)) = true := by
  rw [decide_eq_true h.1, decide_eq_true h.2]; rfl

set_option maxHeartbeats 1000000 in
theorem refDate_bad (n : Int) (h : ¬ (0 ≤ n ∧ n ≤ 40000)) (w : World) :
    Calls Tryd.prog 10 #[.int .i64 n] w fun e w' => e = .returned (.tuple #[.int .i64 0, .int .i64 0, .int .i64 0, .int .i64 13]) ∧ w = w' := by
  have Hd : Hid (Calls Tryd.prog 20 #[.int .i64 n] w fun e w' => e = .returned (.bool false) ∧ w = w') := Lib.hid (refIs_val n false (dayIn_false h) w)
  clear h
  go_enter Tryd.func10, Tryd.ntmps10
  go_wp2_with fail
  refine Hd.out.mono ?_
  rintro e _ ⟨rfl, rfl⟩
  go_wp2
  refine bodyPost_ret (v := .tuple #[.int .i64 0, .int .i64 0, .int .i64 0, .int .i64 13]) (by simp [results, Tryd.results10, go_sem]) rfl ⟨rfl, rfl⟩

set_option maxHeartbeats 4000000 in
theorem refDate_good (n : Int) (K : Nat) (hK : K ≤ 1320) (h1 : Cal.cum K ≤ n) (h2 : n < Cal.cum (K + 1)) (h : 0 ≤ n ∧ n ≤ 40000) (w : World) :
    Calls Tryd.prog 10 #[.int .i64 n] w fun e w' => e = .returned (.tuple #[.int .i64 (Cal.yr K), .int .i64 (Cal.mo K), .int .i64 (n - Cal.cum K + 1), .int .i64 0]) ∧ Below w.heap.size w w' := by
  have Hd : Hid (Calls Tryd.prog 20 #[.int .i64 n] w fun e w' => e = .returned (.bool true) ∧ w = w') := Lib.hid (refIs_val n true (dayIn_true h) w)
  have H1 := Lib.hid h1
  have H2 := Lib.hid h2
  have n0 : 0 ≤ n := h.1
  have n1 : n ≤ 40000 := h.2
  clear h h1 h2
  go_enter Tryd.func10, Tryd.ntmps10
  go_wp2_with fail
  refine Hd.out.mono ?_
  rintro e _ ⟨rfl, rfl⟩
  go_wp2_with fail
  go_loopw [0, 6, 7] (fun x y m wr => ∃ j : Nat, j ≤ K ∧ x = .int .i64 (n - Cal.cum j) ∧ y = .int .i64 (Cal.yr j) ∧ m = .int .i64 (Cal.mo j) ∧ Below w.heap.size w wr) (fun x _ _ _ => (intOf x).toNat)
  case atStart => exact ⟨0, by omega, by simp [Cal.cum], by simp [Cal.yr], by simp [Cal.mo], Below.refl _ _⟩
  case round =>
    obtain ⟨j, hj, rfl, rfl, rfl, hbr⟩ := hrel
    obtain ⟨x, Hx⟩ : ∃ x, Hid (x = n - Cal.cum j) := ⟨_, Lib.hid rfl⟩
    obtain ⟨y, Hy⟩ : ∃ x, Hid (x = Cal.yr j) := ⟨_, Lib.hid rfl⟩
    obtain ⟨m, Hm⟩ : ∃ x, Hid (x = Cal.mo j) := ⟨_, Lib.hid rfl⟩
    obtain ⟨l, Hl⟩ : ∃ x, Hid (x = Cal.len j) := ⟨_, Lib.hid rfl⟩
    rw [← Hx.out, ← Hy.out, ← Hm.out]
    have x0 : 0 ≤ x := by rw [Hx.out]; have := Cal.cum_mono hj; have := H1.out; omega
    have x1 : x ≤ 40000 := by rw [Hx.out]; have := Cal.cum_nonneg j; omega
    have l0 : 28 ≤ l := by rw [Hl.out]; exact (Cal.len_bd _).1
    have l1 : l ≤ 31 := by rw [Hl.out]; exact (Cal.len_bd _).2
    have y0 : 2000 ≤ y := by rw [Hy.out]; unfold Cal.yr; omega
    have y1 : y ≤ 2200 := by rw [Hy.out]; unfold Cal.yr; omega
    have m0 : 1 ≤ m := by rw [Hm.out]; exact (Cal.mo_bd j).1
    have m1 : m ≤ 12 := by rw [Hm.out]; exact (Cal.mo_bd j).2
    have HL : Hid (∀ W : World, Calls Tryd.prog 21 #[.int .i64 y, .int .i64 m] W fun e w' => e = .returned (.int .i64 l) ∧ W = w') := Lib.hid fun W => by
      have := refLength_any y m W
      rw [show Cal.mlen y m = l by rw [Hl.out, Hy.out, Hm.out]; rfl] at this
      exact this
    have Hcs : Hid (Cal.cum (j + 1) = Cal.cum j + l) := by rw [Hl.out]; exact Lib.hid rfl
    by_cases hjK : j = K
    · subst hjK
      have hlt : ¬ l ≤ x := by rw [Hx.out]; have := H2.out; have := Hcs.out; omega
      go_wp2_with fail
      refine (HL.out _).mono ?_
      rintro e _ ⟨rfl, rfl⟩
      go_wp2
      refine bodyPost_ret (v := .tuple #[.int .i64 y, .int .i64 m, .int .i64 (x + 1), .int .i64 0]) (by simp [results, Tryd.results10, go_sem]) rfl ⟨by rw [Hx.out, Hy.out, Hm.out], hbr⟩
    · have hle : l ≤ x := by
        have := Cal.cum_mono (show j + 1 ≤ K by omega); have := Hcs.out; have := H1.out; rw [Hx.out]; omega
      have hjK' : j + 1 ≤ K := by omega
      have hr : (m = 12 ∧ Cal.yr (j + 1) = y + 1 ∧ Cal.mo (j + 1) = 1) ∨ (m ≠ 12 ∧ Cal.yr (j + 1) = y ∧ Cal.mo (j + 1) = m + 1) := by
        rw [Hy.out, Hm.out]; unfold Cal.yr Cal.mo; omega
      have hx2 : n - Cal.cum (j + 1) = x - l := by rw [Hcs.out, Hx.out]; omega
      have Hx2 := Lib.hid hx2
      clear hx2 hj hjK
      rcases hr with ⟨h12, e1, e2⟩ | ⟨h12, e1, e2⟩
      · have E1 := Lib.hid e1
        have E2 := Lib.hid e2
        subst h12
        clear e1 e2
        go_wp2_with fail
        refine (HL.out _).mono ?_
        rintro e _ ⟨rfl, rfl⟩
        go_wp2_with fail
        refine (HL.out _).mono ?_
        rintro e _ ⟨rfl, rfl⟩
        go_wp2
        go_roundw
        case rel => exact ⟨j + 1, hjK', by rw [Hx2.out], by rw [E1.out], by rw [E2.out], hbr⟩
        case measure => simp [intOf]; omega
      · have E1 := Lib.hid e1
        have E2 := Lib.hid e2
        have hm12 : ¬ m + 1 = 13 := by omega
        clear e1 e2 h12
        go_wp2_with fail
        refine (HL.out _).mono ?_
        rintro e _ ⟨rfl, rfl⟩
        go_wp2_with fail
        refine (HL.out _).mono ?_
        rintro e _ ⟨rfl, rfl⟩
        go_wp2
        go_roundw
        case rel => exact ⟨j + 1, hjK', by rw [Hx2.out], by rw [E1.out], by rw [E2.out], hbr⟩
        case measure => simp [intOf]; omega

end Go.Proofs.YthnipdcdiffioabDoor
