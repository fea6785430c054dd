/- The walks of the reference's decimal digits. -/
import Derived.Test.YtfnbdjjobndgfaaDoorBase
import Derived.Lib.ItoaNum
namespace Go.Proofs.YtfnbdjjobndgfaaDoor
open Go.RowKit

theorem digit_piece (m : Nat) : (⟨#[48, 49, 50, 51, 52, 53, 54, 55, 56, 57]⟩ : ByteArray).extract (m % 10) (m % 10 + 1) = ⟨#[UInt8.ofNat (48 + m % 10)]⟩ := by
  have h : m % 10 < 10 := Nat.mod_lt _ (by decide)
  have hc : m % 10 = 0 ∨ m % 10 = 1 ∨ m % 10 = 2 ∨ m % 10 = 3 ∨ m % 10 = 4 ∨ m % 10 = 5 ∨ m % 10 = 6 ∨ m % 10 = 7 ∨ m % 10 = 8 ∨ m % 10 = 9 := by omega
  rcases hc with h | h | h | h | h | h | h | h | h | h <;> rw [h] <;> decide +kernel
theorem digit_cons (m : Nat) (acc : List UInt8) : (⟨#[48, 49, 50, 51, 52, 53, 54, 55, 56, 57]⟩ : ByteArray).extract (m % 10) (m % 10 + 1) ++ ⟨acc.toArray⟩ = ⟨(UInt8.ofNat (48 + m % 10) :: acc).toArray⟩ := by
  rw [digit_piece]
  apply ByteArray.ext
  simp
/-- What is still to come, and what has been written. -/
def decRest (n m : Nat) (acc : List UInt8) : Prop := Lib.decDigits n = (if m = 0 then [] else Lib.decDigits m) ++ acc ∧ m * 10 ^ acc.length ≤ n
theorem decRest_first (n : Nat) : decRest n (n / 10) [UInt8.ofNat (48 + n % 10)] := by
  refine ⟨?_, by simp; omega⟩
  by_cases h : n < 10
  · rw [Lib.decDigits, dif_pos h, if_pos (by omega), Nat.mod_eq_of_lt h]; rfl
  · rw [Lib.decDigits, dif_neg h, if_neg (by omega)]
theorem decRest_next {n m : Nat} {acc : List UInt8} (h : decRest n m acc) (hm : 0 < m) : decRest n (m / 10) (UInt8.ofNat (48 + m % 10) :: acc) := by
  obtain ⟨h1, h2⟩ := h
  rw [if_neg (by omega)] at h1
  constructor
  · rw [h1]
    by_cases h : m < 10
    · rw [Lib.decDigits, dif_pos h, if_pos (by omega), Nat.mod_eq_of_lt h]; rfl
    · rw [Lib.decDigits, dif_neg h, if_neg (by omega), List.append_assoc]; rfl
  · rw [List.length_cons, Nat.pow_succ]
    refine Nat.le_trans ?_ h2
    rw [Nat.mul_comm (10 ^ acc.length) 10, ← Nat.mul_assoc]
    exact Nat.mul_le_mul_right _ (by omega)
theorem decRest_len {n m : Nat} {acc : List UInt8} (h : decRest n m acc) (hm : 0 < m) (hn : n < 18446744073709551616) : acc.length ≤ 20 := by
  rcases Nat.lt_or_ge 20 acc.length with h' | h'
  · have h1 : 10 ^ 21 ≤ 10 ^ acc.length := Nat.pow_le_pow_right (by decide) h'
    have h2 : 1 * 10 ^ acc.length ≤ m * 10 ^ acc.length := Nat.mul_le_mul_right _ hm
    have h3 := h.2
    omega
  · exact h'

set_option maxHeartbeats 1000000 in
theorem refDigits_any (n : Nat) (hn : n < 18446744073709551616) (w : World) :
    Calls Tryd.prog 57 #[.int .u64 n] w fun e w' => e = .returned (.string ⟨(Lib.decDigits n).toArray⟩) ∧ w = w' := by
  go_enter Tryd.func57, Tryd.ntmps57
  go_wp2
  go_loop [0, 3] (fun x s => ∃ (m : Nat) (acc : List UInt8), x = .int .u64 m ∧ m ≤ n ∧ s = .string ⟨acc.toArray⟩ ∧ Hid (decRest n m acc)) (fun x _ => (intOf x).toNat)
  case atStart => exact ⟨n / 10, _, by go_num, by omega, by rw [digit_piece], Lib.hid (decRest_first n)⟩
  case round =>
    obtain ⟨m, acc, rfl, hmn, rfl, H⟩ := hrel
    by_cases hm : 0 < m
    · have hl := decRest_len H.out hm hn
      go_wp2
      go_round
      case rel => exact ⟨m / 10, _, by go_num, by omega, by rw [digit_cons], Lib.hid (decRest_next H.out hm)⟩
      case measure => simp [intOf]; omega
    · have hz : m = 0 := by omega
      have Hf : Hid (acc = Lib.decDigits n) := by have := H.out.1; rw [if_pos hz] at this; exact Lib.hid this.symm
      clear hz
      go_wp2
      go_ret
      exact ⟨ret_str (by rw [Hf.out]), rfl⟩

set_option maxHeartbeats 1000000 in
theorem refDecimal_any (n : Nat) (hn : n ≤ 9223372036854775807) (w : World) :
    Calls Tryd.prog 45 #[.int .i64 n] w fun e w' => e = .returned (.string ⟨(Lib.decDigits n).toArray⟩) ∧ w = w' := by
  go_enter Tryd.func45, Tryd.ntmps45
  go_wp2_with (go_at_call 57; refine (refDigits_any n (by omega) _).mono ?_; rintro e w' ⟨rfl, rfl⟩)
  go_ret
  exact ⟨rfl, rfl⟩

end Go.Proofs.YtfnbdjjobndgfaaDoor
