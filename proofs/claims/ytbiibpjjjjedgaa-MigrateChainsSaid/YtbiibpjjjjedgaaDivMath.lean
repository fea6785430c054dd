/- The plain mathematics of a long division by a number of two digits, in base 2 to the power of 32. Nothing of the program is imported. -/
namespace Go.Proofs.Ytbiibpjjjjedgaa.Dv

theorem mul_eq (q y1 y0 : Nat) : q * (y1 * 4294967296 + y0) = q * y1 * 4294967296 + q * y0 := by
  rw [Nat.mul_add, Nat.mul_assoc]
/-- What holds of a guess of a digit. -/
structure Guess (y1 y0 u a q r : Nat) : Prop where
  sum : q * y1 + r = u
  above : (u * 4294967296 + a) / (y1 * 4294967296 + y0) ≤ q
structure Divisor (y1 y0 u a : Nat) : Prop where
  low : 2147483648 ≤ y1
  high : y1 < 4294967296
  y0lt : y0 < 4294967296
  alt : a < 4294967296
  ult : u < y1 * 4294967296 + y0
theorem first_guess {y1 y0 u a : Nat} (D : Divisor y1 y0 u a) : Guess y1 y0 u a (u / y1) (u % y1) ∧ u / y1 ≤ 4294967297 := by
  have hy : 0 < y1 := by have := D.low; omega
  have h1 : u / y1 * y1 + u % y1 = u := by rw [Nat.mul_comm]; exact Nat.div_add_mod u y1
  refine ⟨⟨h1, ?_⟩, ?_⟩
  · have hY : 0 < y1 * 4294967296 + y0 := by omega
    rw [← Nat.lt_succ_iff, Nat.div_lt_iff_lt_mul hY, Nat.succ_mul, mul_eq]
    have h2 : u % y1 < y1 := Nat.mod_lt _ hy
    have h3 := D.alt
    generalize u / y1 * y1 = p at *
    generalize u / y1 * y0 = z at *
    omega
  · rw [← Nat.lt_succ_iff, Nat.div_lt_iff_lt_mul hy]
    have := D.ult; have := D.low; have := D.y0lt
    show u < 4294967298 * y1
    omega
theorem too_great {y1 y0 u a q r : Nat} (D : Divisor y1 y0 u a) (G : Guess y1 y0 u a q r) (h : 4294967296 ≤ q ∨ 4294967296 * r + a < q * y0) : 1 ≤ q ∧ Guess y1 y0 u a (q - 1) (r + y1) := by
  have hY : 0 < y1 * 4294967296 + y0 := by have := D.low; omega
  have h1 : u * 4294967296 + a < q * (y1 * 4294967296 + y0) := by
    rcases h with h | h
    · have h2 : 4294967296 * (y1 * 4294967296 + y0) ≤ q * (y1 * 4294967296 + y0) := Nat.mul_le_mul_right _ h
      have := D.ult; have := D.alt
      omega
    · rw [mul_eq]
      have := G.sum
      generalize q * y1 = p at *
      generalize q * y0 = z at *
      omega
  have hq : 1 ≤ q := by
    rcases Nat.eq_zero_or_pos q with h0 | h0
    · rw [h0] at h1; omega
    · exact h0
  refine ⟨hq, ?_, ?_⟩
  · have h2 : (q - 1) * y1 + y1 = q * y1 := by rw [← Nat.succ_mul]; congr 1; omega
    have := G.sum
    omega
  · have := (Nat.div_lt_iff_lt_mul hY).2 h1
    omega
theorem right_guess {y1 y0 u a q r : Nat} (D : Divisor y1 y0 u a) (G : Guess y1 y0 u a q r) (h : q * y0 ≤ 4294967296 * r + a) : q = (u * 4294967296 + a) / (y1 * 4294967296 + y0) := by
  have hY : 0 < y1 * 4294967296 + y0 := by have := D.low; omega
  have h1 : q * (y1 * 4294967296 + y0) ≤ u * 4294967296 + a := by
    rw [mul_eq]
    have := G.sum
    generalize q * y1 = p at *
    generalize q * y0 = z at *
    omega
  exact Nat.le_antisymm ((Nat.le_div_iff_mul_le hY).2 h1) G.above
theorem big_rest {y1 y0 u a q r : Nat} (D : Divisor y1 y0 u a) (hq : q ≤ 4294967296) (hr : 4294967296 ≤ r) : q * y0 ≤ 4294967296 * r + a := by
  have h1 : q * y0 ≤ 4294967296 * y0 := Nat.mul_le_mul_right _ hq
  have := D.y0lt
  omega
/-- Products that are compared stay below 2 to the power of 64. -/
theorem prod_lt {q y0 : Nat} (hq : q < 4294967296) (hy : y0 < 4294967296) : q * y0 < 18446744073709551616 := by
  have h1 : q * y0 ≤ 4294967295 * y0 := Nat.mul_le_mul_right _ (by omega)
  omega
/-- The rest behind the first digit. -/
theorem rest_eq (U Y : Nat) : U - U / Y * Y = U % Y := by
  have := Nat.div_add_mod U Y
  rw [Nat.mul_comm] at this
  omega
theorem two_digits (U Y b : Nat) (hY : 0 < Y) : (U * 4294967296 + b) / Y = U / Y * 4294967296 + (U % Y * 4294967296 + b) / Y ∧ (U * 4294967296 + b) % Y = (U % Y * 4294967296 + b) % Y := by
  have h := Nat.div_add_mod U Y
  have e : U * 4294967296 + b = U % Y * 4294967296 + b + Y * (U / Y * 4294967296) := by
    have : Y * (U / Y * 4294967296) = Y * (U / Y) * 4294967296 := by rw [Nat.mul_assoc]
    rw [this]
    omega
  constructor
  · rw [e, Nat.add_mul_div_left _ _ hY, Nat.add_comm]
  · rw [e, Nat.add_mul_mod_self_left]
/-- Dividing after both have been multiplied. -/
theorem scaled_div (N y k : Nat) (hk : 0 < k) : (N * k) / (y * k) = N / y ∧ (N * k) % (y * k) = (N % y) * k :=
  ⟨Nat.mul_div_mul_right _ _ hk, Nat.mul_mod_mul_right _ _ _⟩

end Go.Proofs.Ytbiibpjjjjedgaa.Dv
