/- math/bits' division of a number of two words, by a number of at most 40 bits. -/
import Derived.Test.YtbiibpjjjjedgaaDiv64
import Derived.Lib.ItoaNum
namespace Go.Proofs.Ytbiibpjjjjedgaa
open Go.RowKit

theorem or_u64_two (a b : Nat) (ha : a < 18446744073709551616) (hb : b < 18446744073709551616) :
    bits .or .u64 (a : Int) (b : Int) = ((a ||| b : Nat) : Int) := by
  have hx : a ||| b < 2 ^ 64 := Nat.or_lt_two_pow (by omega) (by omega)
  have h1 : (BitVec.ofInt 64 (a : Int)).toNat = a := by
    rw [BitVec.ofInt_natCast, BitVec.toNat_ofNat]; exact Nat.mod_eq_of_lt (by omega)
  have h2 : (BitVec.ofInt 64 (b : Int)).toNat = b := by
    rw [BitVec.ofInt_natCast, BitVec.toNat_ofNat]; exact Nat.mod_eq_of_lt (by omega)
  show IntKind.u64.wrap ((BitVec.ofInt 64 (a : Int) ||| BitVec.ofInt 64 (b : Int)).toNat : Int) = _
  rw [BitVec.toNat_or, h1, h2]
  exact wrap_u64_nat _ (by omega)
theorem and_mask32 (y : Nat) (hy : y < 18446744073709551616) : bits .and .u64 (y : Int) 4294967295 = ((y % 4294967296 : Nat) : Int) := by
  have h1 : (BitVec.ofInt 64 (y : Int)).toNat = y := by
    rw [BitVec.ofInt_natCast, BitVec.toNat_ofNat]; exact Nat.mod_eq_of_lt (by omega)
  have h2 : (BitVec.ofInt 64 (4294967295 : Int)).toNat = 4294967295 := by decide
  show IntKind.u64.wrap ((BitVec.ofInt 64 (y : Int) &&& BitVec.ofInt 64 (4294967295 : Int)).toNat : Int) = _
  have h3 : y &&& 4294967295 = y % 4294967296 := Nat.and_two_pow_sub_one_eq_mod y 32
  rw [BitVec.toNat_and, h1, h2, h3]
  exact wrap_u64_nat _ (by omega)
theorem wrap_mul_pow (x s z : Nat) (h : z = x * 2 ^ s % 18446744073709551616) : IntKind.u64.wrap ((x : Int) * 2 ^ s) = (z : Int) := by
  have e : IntKind.u64.wrap ((x : Int) * 2 ^ s) = ((x : Int) * 2 ^ s) % 18446744073709551616 := rfl
  have e2 : (x : Int) * 2 ^ s = ((x * 2 ^ s : Nat) : Int) := by simp
  rw [e, e2, h]
  omega
theorem div_pow_cast (x s : Nat) : (x : Int) / 2 ^ s = ((x / 2 ^ s : Nat) : Int) := by simp

theorem div64_any (hi lo y : Nat) (hhi : hi < y) (hlo : lo < 18446744073709551616) (hy : y ≤ 1000000000000) (w : World) :
    Calls Try.prog 47 #[.int .u64 hi, .int .u64 lo, .int .u64 y] w fun e w' => e = .returned (.tuple #[.int .u64 ((hi * 18446744073709551616 + lo) / y : Nat), .int .u64 ((hi * 18446744073709551616 + lo) % y : Nat)]) ∧ Below w.heap.size w w' := by
  by_cases h0 : hi = 0
  · subst h0
    have := div64_small lo y hlo hhi hy w
    simpa using this
  · obtain ⟨b1, b2, b3⟩ := Lib.bitLenAux_bounds 64 y (by omega) (by omega)
    have hL : Lib.bitLen y ≤ 40 := Lib.bitLen_le y 40 (by omega) (by omega)
    obtain ⟨L, hLd⟩ : ∃ L, L = Lib.bitLenAux 64 y := ⟨_, rfl⟩
    have hLb : Lib.bitLen y = L := by rw [hLd]; rfl
    rw [← hLd] at b1 b2 b3
    rw [hLb] at hL
    obtain ⟨s, hs⟩ : ∃ s, s = 64 - L := ⟨_, rfl⟩
    have hs0 : 24 ≤ s := by omega
    have hs1 : s ≤ 63 := by omega
    obtain ⟨k, hk⟩ : ∃ k, k = 2 ^ s := ⟨_, rfl⟩
    obtain ⟨j, hj⟩ : ∃ j, j = 2 ^ (64 - s) := ⟨_, rfl⟩
    have hkj : k * j = 18446744073709551616 := by rw [hk, hj, ← Nat.pow_add, show s + (64 - s) = 64 by omega]
    have hk0 : 0 < k := by rw [hk]; exact Nat.two_pow_pos _
    have hj0 : 0 < j := by rw [hj]; exact Nat.two_pow_pos _
    have hyk1 : 9223372036854775808 ≤ y * k := by
      have : 2 ^ (L - 1) * k = 9223372036854775808 := by rw [hk, ← Nat.pow_add, show L - 1 + s = 63 by omega]
      rw [← this]; exact Nat.mul_le_mul_right _ b2
    have hyk2 : y * k < 18446744073709551616 := by
      have : 2 ^ L * k = 18446744073709551616 := by rw [hk, ← Nat.pow_add, show L + s = 64 by omega]
      rw [← this]; exact Nat.mul_lt_mul_of_pos_right b3 hk0
    have hhk : hi * k + k ≤ y * k := by rw [← Nat.succ_mul]; exact Nat.mul_le_mul_right _ hhi
    obtain ⟨Y, hY⟩ : ∃ Y, Y = y * k := ⟨_, rfl⟩
    obtain ⟨H, hH⟩ : ∃ Y, Y = hi * k := ⟨_, rfl⟩
    obtain ⟨X, hX⟩ : ∃ Y, Y = lo / j := ⟨_, rfl⟩
    obtain ⟨Z, hZ⟩ : ∃ Y, Y = lo * k % 18446744073709551616 := ⟨_, rfl⟩
    have hXk : X < k := by rw [hX, Nat.div_lt_iff_lt_mul hj0, hkj]; exact hlo
    have hZ2 : lo * k = X * 18446744073709551616 + Z := by
      have h1 := Nat.div_add_mod (lo * k) 18446744073709551616
      have h2 : lo * k / 18446744073709551616 = X := by rw [← hkj, hX, Nat.mul_comm k j, Nat.mul_div_mul_right _ _ hk0]
      rw [h2, ← hZ] at h1
      omega
    have hZlt : Z < 18446744073709551616 := by rw [hZ]; exact Nat.mod_lt _ (by decide)
    rw [← hY] at hyk1 hyk2 hhk
    rw [← hH] at hhk
    have horr : H ||| X = H + X := by
      have := Nat.shiftLeft_add_eq_or_of_lt (a := hi) (b := X) (i := s) (by rw [← hk]; exact hXk)
      rw [Nat.shiftLeft_eq, ← hk, ← hH] at this
      exact this.symm
    have key := div64_core hi lo y s Y (Y / 4294967296) (Y % 4294967296) H X (H + X) Z (Z / 4294967296) (Z % 4294967296) hhi (by omega) hlo hy hs0 hs1 w
      (by
        have := _root_.Go.Proofs.Try.bits_LeadingZeros64 (y : Int) w (by omega) (by omega)
        rw [Int.toNat_natCast, hLb, show (64 : Int) - (L : Int) = (s : Int) by omega] at this
        exact this)
      (wrap_mul_pow y s Y (by rw [← hk, ← hY]; omega)) (by simp) (and_mask32 Y hyk2)
      (wrap_mul_pow hi s H (by rw [← hk, ← hH]; omega)) (by rw [div_pow_cast, ← hj, ← hX])
      (by rw [or_u64_two H X (by omega) (by omega), horr])
      (wrap_mul_pow lo s Z (by rw [← hk, hZ])) (by simp) (and_mask32 Z hZlt)
      ⟨by omega, by omega, by omega, by omega, by omega⟩ (by omega) (by omega)
    have hN : ((H + X) * 4294967296 + Z / 4294967296) * 4294967296 + Z % 4294967296 = (hi * 18446744073709551616 + lo) * k := by
      have h1 : (hi * 18446744073709551616 + lo) * k = hi * k * 18446744073709551616 + lo * k := by rw [Nat.add_mul, Nat.mul_right_comm]
      rw [h1, hZ2, ← hH]
      omega
    rw [hN, hY] at key
    obtain ⟨q1, q2⟩ := Dv.scaled_div (hi * 18446744073709551616 + lo) y k hk0
    rw [q1, q2, ← hk, Nat.mul_div_cancel _ hk0] at key
    exact key

end Go.Proofs.Ytbiibpjjjjedgaa
