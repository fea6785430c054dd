/- The walks of the reference implementation of days: months later. -/
import Derived.Test.YthnipdcdiffioabDoorDayRefB
namespace Go.Proofs.YthnipdcdiffioabDoor
open Go.RowKit

set_option maxHeartbeats 1000000 in
theorem refMonths_bad (n c : Int) (h : ¬ (0 ≤ n ∧ n ≤ 40000)) (w : World) :
    Calls Tryd.prog 18 #[.int .i64 n, .int .i64 c] w fun e w' => e = .returned (.tuple #[.int .i64 0, .int .i64 13]) ∧ Below w.heap.size w w' := by
  have HD : Hid (Calls Tryd.prog 10 #[.int .i64 n] w fun e w' => e = .returned (.tuple #[.int .i64 0, .int .i64 0, .int .i64 0, .int .i64 13]) ∧ w = w') := Lib.hid (refDate_bad n h w)
  clear h
  go_enter Tryd.func18, Tryd.ntmps18
  go_wp2_with fail
  refine HD.out.mono ?_
  rintro e _ ⟨rfl, rfl⟩
  go_wp2
  go_ret2
  exact ⟨rfl, Below.refl _ _⟩

set_option maxHeartbeats 2000000 in
theorem refMonths_far (n c : Int) (K : Nat) (hK : K ≤ 1320) (h1 : Cal.cum K ≤ n) (h2 : n < Cal.cum (K + 1)) (h : 0 ≤ n ∧ n ≤ 40000) (hc : c < -12000 ∨ 12000 < c) (w : World) :
    Calls Tryd.prog 18 #[.int .i64 n, .int .i64 c] w fun e w' => e = .returned (.tuple #[.int .i64 0, .int .i64 13]) ∧ Below w.heap.size w w' := by
  obtain ⟨y, Hy⟩ : ∃ a, Hid (a = Cal.yr K) := ⟨_, Lib.hid rfl⟩
  obtain ⟨m, Hm⟩ : ∃ a, Hid (a = Cal.mo K) := ⟨_, Lib.hid rfl⟩
  obtain ⟨d, Hdd⟩ : ∃ a, Hid (a = n - Cal.cum K + 1) := ⟨_, Lib.hid rfl⟩
  have HD : Hid (Calls Tryd.prog 10 #[.int .i64 n] w fun e w' => e = .returned (.tuple #[.int .i64 y, .int .i64 m, .int .i64 d, .int .i64 0]) ∧ Below w.heap.size w w') := by
    rw [Hy.out, Hm.out, Hdd.out]; exact Lib.hid (refDate_good n K hK h1 h2 h w)
  clear h h1 h2 hK
  rcases Int.lt_or_le c (-12000) with hc1 | hc1
  · clear hc
    go_enter Tryd.func18, Tryd.ntmps18
    go_wp2_with fail
    refine HD.out.mono ?_
    rintro e w1 ⟨rfl, hb⟩
    go_wp2
    go_ret2
    exact ⟨rfl, hb⟩
  · have hc2 : 12000 < c := by omega
    have hc3 : ¬ c < -12000 := by omega
    clear hc
    go_enter Tryd.func18, Tryd.ntmps18
    go_wp2_with fail
    refine HD.out.mono ?_
    rintro e w1 ⟨rfl, hb⟩
    go_wp2
    go_ret2
    exact ⟨rfl, hb⟩

set_option maxHeartbeats 4000000 in
theorem refMonths_good (n c : Int) (K : Nat) (hK : K ≤ 1320) (h1 : Cal.cum K ≤ n) (h2 : n < Cal.cum (K + 1)) (h : 0 ≤ n ∧ n ≤ 40000) (hc1 : -12000 ≤ c) (hc2 : c ≤ 12000) (w : World) :
    Calls Tryd.prog 18 #[.int .i64 n, .int .i64 c] w fun e w' => e = .returned (.tuple #[.int .i64 (if numE (monY K c) (monM K c) (monD n K c) = 0 then numV (monY K c) (monM K c) (monD n K c) else 0), .int .i64 (numE (monY K c) (monM K c) (monD n K c))]) ∧ Below w.heap.size w w' := by
  obtain ⟨y, Hy⟩ : ∃ a, Hid (a = Cal.yr K) := ⟨_, Lib.hid rfl⟩
  obtain ⟨m, Hm⟩ : ∃ a, Hid (a = Cal.mo K) := ⟨_, Lib.hid rfl⟩
  obtain ⟨d, Hdd⟩ : ∃ a, Hid (a = n - Cal.cum K + 1) := ⟨_, Lib.hid rfl⟩
  have HD : Hid (Calls Tryd.prog 10 #[.int .i64 n] w fun e w' => e = .returned (.tuple #[.int .i64 y, .int .i64 m, .int .i64 d, .int .i64 0]) ∧ Below w.heap.size w w') := by
    rw [Hy.out, Hm.out, Hdd.out]; exact Lib.hid (refDate_good n K hK h1 h2 h w)
  obtain ⟨A, HA⟩ : ∃ a, Hid (a = 24000 + (K : Int) + c) := ⟨_, Lib.hid rfl⟩
  have hA : 12 * y + m - 1 + c = A := by rw [Hy.out, Hm.out, HA.out]; unfold Cal.yr Cal.mo; omega
  have a0 : 12000 ≤ A := by rw [HA.out]; omega
  have a1 : A ≤ 40000 := by rw [HA.out]; omega
  have y0 : 2000 ≤ y := by rw [Hy.out]; unfold Cal.yr; omega
  have y1 : y ≤ 2110 := by rw [Hy.out]; unfold Cal.yr; omega
  have m0 : 1 ≤ m := by rw [Hm.out]; exact (Cal.mo_bd K).1
  have m1 : m ≤ 12 := by rw [Hm.out]; exact (Cal.mo_bd K).2
  obtain ⟨Y, HY⟩ : ∃ a, Hid (a = monY K c) := ⟨_, Lib.hid rfl⟩
  obtain ⟨M, HM⟩ : ∃ a, Hid (a = monM K c) := ⟨_, Lib.hid rfl⟩
  have eY : A / 12 = Y := by rw [HY.out, HA.out]; rfl
  have eM : A % 12 + 1 = M := by rw [HM.out, HA.out]; rfl
  obtain ⟨l, Hl⟩ : ∃ l, Hid (l = Cal.mlen Y M) := ⟨_, Lib.hid rfl⟩
  have HL : Hid (∀ W : World, Calls Tryd.prog 21 #[.int .i64 Y, .int .i64 M] W fun e w' => e = .returned (.int .i64 l) ∧ W = w') := Lib.hid fun W => by rw [Hl.out]; exact refLength_any Y M W
  obtain ⟨D, HDm⟩ : ∃ l, Hid (l = monD n K c) := ⟨_, Lib.hid rfl⟩
  have eD : min d l = D := by rw [HDm.out, Hdd.out, Hl.out, HY.out, HM.out]; unfold monD; split <;> omega
  have HN : Hid (∀ W : World, Calls Tryd.prog 12 #[.int .i64 Y, .int .i64 M, .int .i64 D] W fun e w' => e = .returned (.tuple #[.int .i64 (if numE Y M D = 0 then numV Y M D else 0), .int .i64 (numE Y M D)]) ∧ Below W.heap.size W w') := Lib.hid fun W => refNumber_any Y M D W
  have HE : Hid ((Y < 2000 ∨ 2109 < Y) → numE Y M D = 13) := by
    refine Lib.hid fun hh => ?_
    have hb := Cal.mlen_bd Y M
    have hd1 : 1 ≤ D ∧ D ≤ Cal.mlen Y M := by
      rw [← eD, ← Hl.out]
      have : 1 ≤ d := by rw [Hdd.out]; omega
      rw [Hl.out] at *
      omega
    unfold numE
    rw [if_neg (by omega), if_pos hh]
  obtain ⟨r, Hr⟩ : ∃ r, Hid (r = if numE Y M D = 0 then numV Y M D else 0) := ⟨_, Lib.hid rfl⟩
  obtain ⟨s, Hs⟩ : ∃ r, Hid (r = numE Y M D) := ⟨_, Lib.hid rfl⟩
  rw [← HY.out, ← HM.out, ← HDm.out, ← Hr.out, ← Hs.out]
  rw [← Hr.out, ← Hs.out] at HN
  rw [← Hs.out] at HE
  have Hr13 : Hid (s = 13 → r = 0) := Lib.hid fun hs => by rw [Hr.out, if_neg (by rw [← Hs.out, hs]; decide)]
  clear h h1 h2 hK
  by_cases hlow : A < 24000
  · obtain rfl : s = 13 := HE.out (by omega)
    obtain rfl : r = 0 := Hr13.out rfl
    go_enter Tryd.func18, Tryd.ntmps18
    go_wp2_with fail
    refine HD.out.mono ?_
    rintro e w1 ⟨rfl, hb⟩
    go_wp2
    go_ret2
    exact ⟨rfl, hb⟩
  · by_cases hhi : 2109 < Y
    · obtain rfl : s = 13 := HE.out (by omega)
      obtain rfl : r = 0 := Hr13.out rfl
      go_enter Tryd.func18, Tryd.ntmps18
      go_wp2_with fail
      refine HD.out.mono ?_
      rintro e w1 ⟨rfl, hb⟩
      go_wp2
      go_ret2
      exact ⟨rfl, hb⟩
    · go_enter Tryd.func18, Tryd.ntmps18
      go_wp2_with fail
      refine HD.out.mono ?_
      rintro e w1 ⟨rfl, hb⟩
      go_wp2_with fail
      refine (HL.out _).mono ?_
      rintro e _ ⟨rfl, rfl⟩
      go_wp2_with fail
      refine (HN.out _).mono ?_
      rintro e w2 ⟨rfl, hb2⟩
      go_wp2
      go_ret2
      exact ⟨rfl, hb.trans (hb2.mono hb.size)⟩

end Go.Proofs.YthnipdcdiffioabDoor
