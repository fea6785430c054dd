/- The walk of the statements' comparison of two products. -/
import Derived.Test.YtbiibpjjjjedgaaBase
namespace Go.Proofs.Ytbiibpjjjjedgaa
open Go.RowKit

/-- -1, 0 or 1, as a number is less than, equal to, or greater than another one. -/
def cmpV (p q : Int) : Int := if p < q then -1 else if q < p then 1 else 0
theorem cmpV_cases (p q : Int) : (p < q ∧ cmpV p q = -1) ∨ (p = q ∧ cmpV p q = 0) ∨ (q < p ∧ cmpV p q = 1) := by
  unfold cmpV; split
  · omega
  · split <;> omega
theorem prod_parts (a b : Int) (ha : 0 ≤ a ∧ a ≤ 2000000000000) (hb : 0 ≤ b ∧ b ≤ 2000000000000) :
    a * b = a / 2097152 * b * 2097152 + a % 2097152 * b ∧ 0 ≤ a / 2097152 * b ∧ a / 2097152 * b ≤ 1907348000000000000 ∧ 0 ≤ a % 2097152 * b ∧ a % 2097152 * b ≤ 4194302000000000000 := by
  have h1 : 0 ≤ a / 2097152 ∧ a / 2097152 ≤ 953674 := by omega
  have h2 : 0 ≤ a % 2097152 ∧ a % 2097152 ≤ 2097151 := by omega
  refine ⟨?_, Int.mul_nonneg h1.1 hb.1, ?_, Int.mul_nonneg h2.1 hb.1, ?_⟩
  · rw [Int.mul_right_comm, ← Int.add_mul]
    congr 1
    omega
  · have e1 : a / 2097152 * b ≤ 953674 * b := Int.mul_le_mul_of_nonneg_right h1.2 hb.1
    omega
  · have e1 : a % 2097152 * b ≤ 2097151 * b := Int.mul_le_mul_of_nonneg_right h2.2 hb.1
    omega
theorem tdiv_neg {n : Int} (h : n < 0) : n.tdiv 2097152 * 2097152 + n.tmod 2097152 = n ∧ -2097152 < n.tmod 2097152 ∧ n.tmod 2097152 ≤ 0 := by
  have h1 : n.tdiv 2097152 = -((-n) / 2097152) := by
    have := Int.neg_tdiv (-n) 2097152
    rw [Int.neg_neg] at this
    rw [this, Int.tdiv_eq_ediv_of_nonneg (by omega)]
  have h2 := Int.mul_tdiv_add_tmod n 2097152
  rw [h1] at h2 ⊢
  omega

set_option maxHeartbeats 4000000 in
theorem compare_any (a b c d : Int) (ha : 0 ≤ a ∧ a ≤ 2000000000000) (hb : 0 ≤ b ∧ b ≤ 2000000000000) (hc : 0 ≤ c ∧ c ≤ 2000000000000) (hd : 0 ≤ d ∧ d ≤ 2000000000000) (w : World) :
    Calls Try.prog 18 #[.int .i64 a, .int .i64 b, .int .i64 c, .int .i64 d] w fun e w' => e = .returned (.int .i64 (cmpV (a * b) (c * d))) ∧ w = w' := by
  have HC := Lib.hid (cmpV_cases (a * b) (c * d))
  obtain ⟨E1, b1, b2, b3, b4⟩ := prod_parts a b ha hb
  obtain ⟨E2, b5, b6, b7, b8⟩ := prod_parts c d hc hd
  obtain ⟨z, Hz⟩ : ∃ z, Hid (z = cmpV (a * b) (c * d)) := ⟨_, Lib.hid rfl⟩
  rw [← Hz.out] at HC ⊢
  rw [E1, E2] at HC
  clear E1 E2
  obtain ⟨p1, H1⟩ : ∃ p, Hid (p = a / 2097152 * b) := ⟨_, Lib.hid rfl⟩
  obtain ⟨p2, H2⟩ : ∃ p, Hid (p = c / 2097152 * d) := ⟨_, Lib.hid rfl⟩
  obtain ⟨p3, H3⟩ : ∃ p, Hid (p = a % 2097152 * b) := ⟨_, Lib.hid rfl⟩
  obtain ⟨p4, H4⟩ : ∃ p, Hid (p = c % 2097152 * d) := ⟨_, Lib.hid rfl⟩
  rw [← H1.out] at HC b1 b2
  rw [← H2.out] at HC b5 b6
  rw [← H3.out] at HC b3 b4
  rw [← H4.out] at HC b7 b8
  have e1 : IntKind.i64.wrap (a / 2097152 * b) = p1 := by rw [← H1.out, IntKind.wrap_i64]; omega
  have e2 : IntKind.i64.wrap (c / 2097152 * d) = p2 := by rw [← H2.out, IntKind.wrap_i64]; omega
  have e3 : IntKind.i64.wrap (a % 2097152 * b) = p3 := by rw [← H3.out, IntKind.wrap_i64]; omega
  have e4 : IntKind.i64.wrap (c % 2097152 * d) = p4 := by rw [← H4.out, IntKind.wrap_i64]; omega
  clear H1 H2 H3 H4 hb hd
  obtain ⟨ha1, ha2⟩ := ha
  obtain ⟨hc1, hc2⟩ := hc
  by_cases hL : 0 ≤ p3 - p4
  · go_enter Try.func18, Try.ntmps18
    go_wp2
    all_goals
      go_ret
      exact ⟨ret_int (by have := HC.out; clear e1 e2 e3 e4; omega), rfl⟩
  · obtain ⟨t1, t2, t3⟩ := tdiv_neg (show p3 - p4 < 0 by omega)
    obtain ⟨q, Hq⟩ : ∃ q, Hid (q = (p3 - p4).tdiv 2097152) := ⟨_, Lib.hid rfl⟩
    obtain ⟨r, Hr⟩ : ∃ q, Hid (q = (p3 - p4).tmod 2097152) := ⟨_, Lib.hid rfl⟩
    have e5 : (p3 - p4).tdiv 2097152 = q := Hq.out.symm
    have e6 : (p3 - p4).tmod 2097152 = r := Hr.out.symm
    rw [e5, e6] at t1
    rw [e6] at t2 t3
    clear Hq Hr
    go_enter Try.func18, Try.ntmps18
    go_wp2
    all_goals
      go_ret
      exact ⟨ret_int (by have := HC.out; clear e1 e2 e3 e4 e5 e6; omega), rfl⟩

end Go.Proofs.Ytbiibpjjjjedgaa
