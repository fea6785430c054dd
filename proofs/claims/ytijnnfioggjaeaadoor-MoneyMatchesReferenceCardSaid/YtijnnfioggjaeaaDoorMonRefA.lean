/- The walks of money's reference: amounts, percentages, decimal digits. -/
import Derived.Test.YtijnnfioggjaeaaDoorBase
import Derived.Test.YtijnnfioggjaeaaDoorMonWalksA
import Derived.Test.YtijnnfioggjaeaaDoorMonTextMath
namespace Go.Proofs.YtijnnfioggjaeaaDoor
open Go.RowKit

theorem refIs_any (n : Int) (w : World) :
    Calls Tryd.prog 21 #[.int .i64 n] w fun e w' => e = .returned (.bool (Mon.amtB n)) ∧ w = w' := by
  by_cases h1 : 0 ≤ n
  · by_cases h2 : n ≤ 1000000000000
    · rw [Mon.amt_iff.2 ⟨h1, h2⟩]
      go_enter Tryd.func21, Tryd.ntmps21
      go_wp2
      go_ret
      exact ⟨by first | rfl | (show Ending.returned (.bool (decide (n ≤ 1000000000000))) = _; rw [decide_eq_true h2]), rfl⟩
    · rw [Mon.amt_no (fun h => h2 h.2)]
      go_enter Tryd.func21, Tryd.ntmps21
      go_wp2
      go_ret
      exact ⟨by first | rfl | (show Ending.returned (.bool (decide (n ≤ 1000000000000))) = _; rw [decide_eq_false h2]), rfl⟩
  · rw [Mon.amt_no (fun h => h1 h.1)]
    go_enter Tryd.func21, Tryd.ntmps21
    go_wp2
    go_ret
    exact ⟨rfl, rfl⟩

theorem digit10 (m : Nat) (h : m < 10) : (⟨#[48, 49, 50, 51, 52, 53, 54, 55, 56, 57]⟩ : ByteArray).extract m (m + 1) = ⟨#[UInt8.ofNat (48 + m)]⟩ := by
  have hc : m = 0 ∨ m = 1 ∨ m = 2 ∨ m = 3 ∨ m = 4 ∨ m = 5 ∨ m = 6 ∨ m = 7 ∨ m = 8 ∨ m = 9 := by omega
  rcases hc with h | h | h | h | h | h | h | h | h | h <;> rw [h] <;> decide +kernel
theorem digit10_cons (m : Nat) (h : m < 10) (acc : List UInt8) : (⟨#[48, 49, 50, 51, 52, 53, 54, 55, 56, 57]⟩ : ByteArray).extract m (m + 1) ++ ⟨acc.toArray⟩ = ⟨(UInt8.ofNat (48 + m) :: acc).toArray⟩ := by
  rw [digit10 m h]
  apply ByteArray.ext
  simp

set_option maxHeartbeats 1000000 in
theorem refDec_any (n : Nat) (hn : n ≤ 10000000000) (w : World) :
    Calls Tryd.prog 24 #[.int .i64 n] w fun e w' => e = .returned (.string ⟨(Lib.decDigits n).toArray⟩) ∧ w = w' := by
  go_enter Tryd.func24, Tryd.ntmps24
  go_wp2
  go_loop [0, 3] (fun x s => ∃ (m : Nat) (acc : List UInt8), x = .int .i64 m ∧ m ≤ n ∧ s = .string ⟨acc.toArray⟩ ∧ acc.length ≤ 11 ∧ m * 10 ^ acc.length ≤ n ∧ Hid (Lib.decDigits n = Lib.decDigits m ++ acc)) (fun x _ => (intOf x).toNat)
  case atStart => exact ⟨n, [], rfl, Nat.le_refl _, rfl, by simp, by simp, Lib.hid (by simp)⟩
  case round =>
    obtain ⟨m, acc, rfl, hmn, rfl, hal, hpw, H⟩ := hrel
    by_cases hm : 9 < m
    · have hd : m % 10 < 10 := Nat.mod_lt _ (by decide)
      have hpw2 : m / 10 * 10 ^ (acc.length + 1) ≤ n := by
        rw [Nat.pow_succ, Nat.mul_comm (10 ^ acc.length) 10, ← Nat.mul_assoc]
        exact Nat.le_trans (Nat.mul_le_mul_right _ (by omega)) hpw
      have hal2 : acc.length + 1 ≤ 11 := by
        rcases Nat.lt_or_ge 10 acc.length with h | h
        · have h1 : 10 ^ 11 ≤ 10 ^ acc.length := Nat.pow_le_pow_right (by decide) h
          have h2 : 1 * 10 ^ acc.length ≤ m * 10 ^ acc.length := Nat.mul_le_mul_right _ (by omega)
          omega
        · omega
      have Hn : Hid (Lib.decDigits n = Lib.decDigits (m / 10) ++ (UInt8.ofNat (48 + m % 10) :: acc)) := Lib.hid (by
        rw [H.out, Mon.dec_succ m (by omega), List.append_assoc]; rfl)
      clear hpw
      go_wp2
      go_round
      case rel => exact ⟨m / 10, _, by go_num, by omega, by rw [digit10_cons _ hd], by simpa using hal2, by simpa using hpw2, Hn⟩
      case measure => simp [intOf]; omega
    · have Hf : Hid (Lib.decDigits n = UInt8.ofNat (48 + m) :: acc) := Lib.hid (by rw [H.out, Lib.decDigits_one (by omega)]; rfl)
      have hm2 : m < 10 := by omega
      clear hpw
      go_wp2
      go_ret
      exact ⟨ret_str (by rw [digit10_cons _ hm2, Hf.out]), rfl⟩

end Go.Proofs.YtijnnfioggjaeaaDoor
