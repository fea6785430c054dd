/- The plain mathematics of days and dates. Nothing of the program is imported. -/
namespace Go.Proofs.YthnipdcdiffioabDoor.Cal

def leapB (y : Int) : Bool := decide ((y % 4 = 0 ∧ ¬ y % 100 = 0) ∨ y % 400 = 0)
def mlen (y m : Int) : Int := if m = 2 then (if leapB y then 29 else 28) else if m = 4 ∨ m = 6 ∨ m = 9 ∨ m = 11 then 30 else 31
theorem mlen_bd (y m : Int) : 28 ≤ mlen y m ∧ mlen y m ≤ 31 := by
  unfold mlen; split
  · split <;> omega
  · split <;> omega
theorem mlen_400 (y m : Int) : mlen (y + 400) m = mlen y m := by
  have : leapB (y + 400) = leapB y := by unfold leapB; apply decide_eq_decide.2; omega
  unfold mlen; rw [this]
/-- Months are counted from January 2000 on. -/
def yr (k : Nat) : Int := 2000 + ((k / 12 : Nat) : Int)
def mo (k : Nat) : Int := ((k % 12 : Nat) : Int) + 1
def len (k : Nat) : Int := mlen (yr k) (mo k)
def cum : Nat → Int
  | 0 => 0
  | k + 1 => cum k + len k
theorem len_bd (k : Nat) : 28 ≤ len k ∧ len k ≤ 31 := mlen_bd _ _
theorem mo_bd (k : Nat) : 1 ≤ mo k ∧ mo k ≤ 12 := by unfold mo; omega
theorem cum_add (k : Nat) : ∀ j : Nat, cum k + 28 * (j : Int) ≤ cum (k + j)
  | 0 => by simp
  | j + 1 => by have := cum_add k j; have := len_bd (k + j); show _ ≤ cum (k + j) + len (k + j); omega
theorem cum_mono {j k : Nat} (h : j ≤ k) : cum j ≤ cum k := by
  have := cum_add j (k - j)
  rw [show j + (k - j) = k by omega] at this
  omega
theorem cum_lt {j k : Nat} (h : j < k) : cum j + 28 ≤ cum k := by
  have h1 := cum_add j (k - j)
  rw [show j + (k - j) = k by omega] at h1
  omega
theorem cum_nonneg (k : Nat) : 0 ≤ cum k := cum_mono (Nat.zero_le k)
theorem cum_le (k : Nat) : cum k ≤ 31 * (k : Int) := by
  induction k with
  | zero => simp [cum]
  | succ k ih => have := len_bd k; show cum k + len k ≤ _; omega
theorem cum_last : 40000 < cum 1315 := by decide +kernel
/-- Each day has its month. -/
theorem month_of (n : Int) (h0 : 0 ≤ n) : ∀ k, n < cum k → ∃ j, j < k ∧ cum j ≤ n ∧ n < cum (j + 1)
  | 0, h => by simp [cum] at h; omega
  | k + 1, h => by
    by_cases hk : n < cum k
    · obtain ⟨j, h1, h2, h3⟩ := month_of n h0 k hk
      exact ⟨j, by omega, h2, h3⟩
    · exact ⟨k, by omega, by omega, h⟩
theorem month_unique {n : Int} {j k : Nat} (h1 : cum j ≤ n) (h2 : n < cum (j + 1)) (h3 : cum k ≤ n) (h4 : n < cum (k + 1)) : j = k := by
  rcases Nat.lt_trichotomy j k with h | h | h
  · have := cum_mono (show j + 1 ≤ k from h); omega
  · exact h
  · have := cum_mono (show k + 1 ≤ j from h); omega
theorem yr_mo {y m : Int} (hy : 2000 ≤ y) (h1 : 1 ≤ m) (h2 : m ≤ 12) : yr (12 * (y - 2000) + (m - 1)).toNat = y ∧ mo (12 * (y - 2000) + (m - 1)).toNat = m := by
  unfold yr mo; omega
theorem yr_at (a b : Nat) (hb : b < 12) : yr (12 * a + b) = 2000 + (a : Int) ∧ mo (12 * a + b) = (b : Int) + 1 := by
  unfold yr mo; omega

end Go.Proofs.YthnipdcdiffioabDoor.Cal
