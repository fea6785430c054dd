/- The walks of the reference implementation of package migrate. -/
import Derived.Test.YtbiibpjjjjedgaaMigHead
import Derived.Test.YtbiibpjjjjedgaaFreshT
import Derived.Test.YtbiibpjjjjedgaaIvlRefA
import Derived.Test.YtbiibpjjjjedgaaIvlFresh
import Derived.Test.YtbiibpjjjjedgaaTwo
namespace Go.Proofs.Ytbiibpjjjjedgaa
open Go.RowKit

theorem refUsed_any (l h : Int) (w : World) :
    Calls Try.prog 33 #[.agg #[.int .i64 l, .int .i64 h]] w fun e w' => e = .returned (.bool (Mig.usedB l h)) ∧ Below w.heap.size w w' := by
  cases hv : Ivl.validB l h
  · have H := Lib.hid (show Mig.usedB l h = false by unfold Mig.usedB; rw [hv]; rfl)
    go_enter Try.func33, Try.ntmps33
    go_wp2_with fail
    refine (refValid_any _ _ _).mono ?_
    rintro e w1 ⟨rfl, hb⟩
    go_wp2
    go_ret
    exact ⟨ret_bool H.out.symm, ((Below.refl _ _).alloc (Nat.le_refl _) _).trans (hb.mono (by rw [size_alloc]; omega))⟩
  · have H := Lib.hid (show Mig.usedB l h = decide (0 ≤ l) by unfold Mig.usedB; rw [hv]; rfl)
    go_enter Try.func33, Try.ntmps33
    go_wp2_with fail
    refine (refValid_any _ _ _).mono ?_
    rintro e w1 ⟨rfl, hb⟩
    obtain ⟨hc, hd⟩ := bcell hb
    go_wp2
    go_ret
    exact ⟨ret_bool (by rw [H.out]), ((Below.refl _ _).alloc (Nat.le_refl _) _).trans (hb.mono (by rw [size_alloc]; omega))⟩
theorem refLimit_any (n : Int) (w : World) :
    Calls Try.prog 34 #[.int .i64 n] w fun e w' => e = .returned (.bool (Mig.limB n)) ∧ w = w' := by
  by_cases h1 : 1 ≤ n
  · by_cases h2 : n ≤ 1000000000000
    all_goals
      go_enter Try.func34, Try.ntmps34
      go_wp2
      go_ret
      exact ⟨ret_bool (by first | exact (Mig.lim_iff.2 ⟨h1, h2⟩).symm | exact (Mig.lim_no (by omega)).symm), rfl⟩
  · go_enter Try.func34, Try.ntmps34
    go_wp2
    go_ret
    exact ⟨ret_bool (Mig.lim_no (by omega)).symm, rfl⟩

/-- The first digits of a number in base 2, times another one, divided. -/
def quoT (a b c : Nat) (j : Nat) : Int := min ((a / 2 ^ j * b / c : Nat) : Int) 4000000000000
def remT (a b c : Nat) (j : Nat) : Nat := a / 2 ^ j * b % c
theorem digit_two (a m : Nat) : a / 2 ^ m = 2 * (a / 2 ^ (m + 1)) + a / 2 ^ m % 2 := by
  have h : a / 2 ^ (m + 1) = a / 2 ^ m / 2 := by rw [Nat.pow_succ, Nat.div_div_eq_div_mul]
  rw [h]; omega
theorem div_next (a b c m d : Nat) (hc : 0 < c) (hd : d = a / 2 ^ m % 2) :
    quoT a b c m = min (2 * quoT a b c (m + 1) + (((2 * remT a b c (m + 1) + d * b) / c : Nat) : Int)) 4000000000000 ∧ remT a b c m = (2 * remT a b c (m + 1) + d * b) % c := by
  unfold quoT remT
  have h1 : a / 2 ^ m * b = 2 * (a / 2 ^ (m + 1) * b) + d * b := by
    have := digit_two a m
    rw [← hd] at this
    rw [this, Nat.add_mul, Nat.mul_assoc]
  obtain ⟨P, hP⟩ : ∃ P, P = a / 2 ^ (m + 1) * b := ⟨_, rfl⟩
  rw [h1, ← hP]
  have h2 := Nat.div_add_mod P c
  have e : 2 * P + d * b = 2 * (P % c) + d * b + c * (2 * (P / c)) := by
    have : c * (2 * (P / c)) = 2 * (c * (P / c)) := by rw [Nat.mul_left_comm]
    rw [this]; omega
  rw [e, Nat.add_mul_div_left _ _ hc, Nat.add_mul_mod_self_left]
  refine ⟨?_, rfl⟩
  generalize (2 * (P % c) + d * b) / c = Q
  generalize P / c = R
  omega
theorem and_one (x : Nat) (h : x < 9223372036854775808) : bits .and .i64 (x : Int) 1 = ((x % 2 : Nat) : Int) := by
  have h1 : (BitVec.ofInt 64 (x : Int)).toNat = x := by
    rw [BitVec.ofInt_natCast, BitVec.toNat_ofNat]; exact Nat.mod_eq_of_lt (by omega)
  have h2 : (BitVec.ofInt 64 (1 : Int)).toNat = 1 := by decide
  show IntKind.i64.wrap ((BitVec.ofInt 64 (x : Int) &&& BitVec.ofInt 64 (1 : Int)).toNat : Int) = _
  rw [BitVec.toNat_and, h1, h2, Nat.and_one_is_mod, IntKind.wrap_i64]
  omega

set_option maxHeartbeats 4000000 in
theorem divide_any (a b c : Nat) (ha : a ≤ 1000000000000) (hb : b ≤ 1000000000000) (hc : 1 ≤ c) (hc2 : c ≤ 1000000000000) (w : World) :
    Calls Try.prog 35 #[.int .i64 a, .int .i64 b, .int .i64 c] w
      fun e w' => e = .returned (.tuple #[.int .i64 (quoT a b c 0), .bool (decide (0 < (remT a b c 0 : Int)))]) ∧ w = w' := by
  go_enter Try.func35, Try.ntmps35
  go_wp2
  go_loop [8, 9, 10] (fun q r i => ∃ j : Nat, j ≤ 41 ∧ i = .int .i64 ((j : Int) - 1) ∧ q = .int .i64 (quoT a b c j) ∧ r = .int .i64 (remT a b c j : Nat)) (fun _ _ i => (intOf i + 1).toNat)
  case atStart =>
    refine ⟨41, by omega, by go_num, ?_, ?_⟩
    · have h : a / 2 ^ 41 = 0 := Nat.div_eq_of_lt (by omega)
      unfold quoT; rw [h]; simp; omega
    · have h : a / 2 ^ 41 = 0 := Nat.div_eq_of_lt (by omega)
      unfold remT; rw [h]; simp
  case round =>
    obtain ⟨j, hj, rfl, rfl, rfl⟩ := hrel
    cases j with
    | zero =>
      go_wp2
      go_ret2
      exact ⟨rfl, rfl⟩
    | succ m =>
      obtain ⟨d, Hd⟩ : ∃ d, Hid (d = a / 2 ^ m % 2) := ⟨_, Lib.hid rfl⟩
      have hd2 : d < 2 := by rw [Hd.out]; exact Nat.mod_lt _ (by decide)
      have Hn := Lib.hid (div_next a b c m d (by omega) Hd.out)
      obtain ⟨Q, HQ⟩ : ∃ d, Hid (d = quoT a b c (m + 1)) := ⟨_, Lib.hid rfl⟩
      obtain ⟨R, HR⟩ : ∃ d, Hid (d = remT a b c (m + 1)) := ⟨_, Lib.hid rfl⟩
      rw [← HQ.out, ← HR.out] at Hn
      have hR : R < c := by rw [HR.out]; exact Nat.mod_lt _ (by omega)
      have hQ : 0 ≤ Q ∧ Q ≤ 4000000000000 := by rw [HQ.out]; unfold quoT; generalize a / 2 ^ (m + 1) * b / c = k; omega
      have hk : bits .and .i64 ((a : Int) / 2 ^ m) 1 = (d : Int) := by
        have := and_one (a / 2 ^ m) (by have := Nat.div_le_self a (2 ^ m); omega)
        rw [← Hd.out] at this
        rw [← this]; simp
      obtain ⟨hQ0, hQ1⟩ := hQ
      rw [← HQ.out, ← HR.out]
      have hc0 : ¬ (c : Int) = 0 := by omega
      have hv0 : 0 ≤ 2 * (R : Int) / c ∧ 2 * (R : Int) / c ≤ 2000000000000 := ⟨Int.ediv_nonneg (by omega) (by omega), by have := Int.ediv_le_self (c : Int) (show 0 ≤ 2 * (R : Int) by omega); omega⟩
      have hv1 : 0 ≤ (2 * (R : Int) + b) / c ∧ (2 * (R : Int) + b) / c ≤ 3000000000000 := ⟨Int.ediv_nonneg (by omega) (by omega), by have := Int.ediv_le_self (c : Int) (show 0 ≤ 2 * (R : Int) + b by omega); omega⟩
      obtain ⟨hv2, hv3⟩ := hv0
      obtain ⟨hv4, hv5⟩ := hv1
      have hdd : d = 0 ∨ d = 1 := by omega
      rcases hdd with rfl | rfl
      · have hk0 : (bits .and .i64 ((a : Int) / 2 ^ m) 1 == 1) = false := by rw [hk]; rfl
        clear hk
        go_wp2
        go_round
        case rel =>
          refine ⟨m, by omega, rfl, ?_, ?_⟩
          · rw [Hn.out.1]; simp
          · rw [Hn.out.2]; simp
        case measure => simp [intOf]
      · have hk0 : (bits .and .i64 ((a : Int) / 2 ^ m) 1 == 1) = true := by rw [hk]; rfl
        clear hk
        go_wp2
        go_round
        case rel =>
          refine ⟨m, by omega, rfl, ?_, ?_⟩
          · rw [Hn.out.1]; simp
          · rw [Hn.out.2]; simp
        case measure => simp [intOf]

/-- What the reference makes of a life's bound. -/
theorem quo_down (n c d : Nat) : quoT n d c 0 = min (Mig.down n c d) 4000000000000 := by
  unfold quoT; rw [Nat.pow_zero, Nat.div_one, ← down_cast]
theorem rem_up (n c d : Nat) (hc : 1 ≤ c) : (decide (0 < (remT n d c 0 : Int))) = decide (Mig.up n c d ≠ Mig.down n c d) := by
  unfold remT
  rw [Nat.pow_zero, Nat.div_one, up_cast hc, down_cast]
  unfold more
  congr 1
  rw [eq_iff_iff]
  split <;> omega
theorem up_down (n c d : Nat) (hc : 1 ≤ c) : Mig.up n c d = Mig.down n c d ∨ Mig.up n c d = Mig.down n c d + 1 := by
  rw [up_cast hc, down_cast]
  unfold more
  split <;> omega

/-- The division, in the words of the life. -/
theorem divide_life (n c d : Int) (hn : 0 ≤ n ∧ n ≤ 1000000000000) (hc : 1 ≤ c ∧ c ≤ 1000000000000) (hd : 1 ≤ d ∧ d ≤ 1000000000000) (w : World) :
    Calls Try.prog 35 #[.int .i64 n, .int .i64 d, .int .i64 c] w
      fun e w' => e = .returned (.tuple #[.int .i64 (min (Mig.down n c d) 4000000000000), .bool (decide (Mig.up n c d ≠ Mig.down n c d))]) ∧ w = w' := by
  obtain ⟨N, rfl⟩ := Int.eq_ofNat_of_zero_le hn.1
  obtain ⟨C, rfl⟩ := Int.eq_ofNat_of_zero_le (show 0 ≤ c by omega)
  obtain ⟨D, rfl⟩ := Int.eq_ofNat_of_zero_le (show 0 ≤ d by omega)
  have := divide_any N D C (by omega) (by omega) (by omega) (by omega) w
  rwa [quo_down, rem_up N C D (by omega)] at this
theorem up_down_int {n c d : Int} (hn : 0 ≤ n) (hc : 1 ≤ c) (hd : 1 ≤ d) : Mig.up n c d = Mig.down n c d ∨ Mig.up n c d = Mig.down n c d + 1 := by
  obtain ⟨N, rfl⟩ := Int.eq_ofNat_of_zero_le hn
  obtain ⟨C, rfl⟩ := Int.eq_ofNat_of_zero_le (show 0 ≤ c by omega)
  obtain ⟨D, rfl⟩ := Int.eq_ofNat_of_zero_le (show 0 ≤ d by omega)
  exact up_down N C D (by omega)

end Go.Proofs.Ytbiibpjjjjedgaa
