/- The walks of the reference implementation of days: digits, texts and their values. -/
import Derived.Test.YthnipdcdiffioabDoorDayRefC
namespace Go.Proofs.YthnipdcdiffioabDoor
open Go.RowKit

theorem digP (m : Nat) : (⟨#[48, 49, 50, 51, 52, 53, 54, 55, 56, 57]⟩ : ByteArray).extract (m % 10) (m % 10 + 1) = ⟨#[UInt8.ofNat (48 + m % 10)]⟩ := by
  have h : m % 10 < 10 := Nat.mod_lt _ (by decide)
  have hc : m % 10 = 0 ∨ m % 10 = 1 ∨ m % 10 = 2 ∨ m % 10 = 3 ∨ m % 10 = 4 ∨ m % 10 = 5 ∨ m % 10 = 6 ∨ m % 10 = 7 ∨ m % 10 = 8 ∨ m % 10 = 9 := by omega
  rcases hc with h | h | h | h | h | h | h | h | h | h <;> rw [h] <;> decide +kernel
theorem digC (m : Nat) (acc : List UInt8) : (⟨#[48, 49, 50, 51, 52, 53, 54, 55, 56, 57]⟩ : ByteArray).extract (m % 10) (m % 10 + 1) ++ ⟨acc.toArray⟩ = ⟨(UInt8.ofNat (48 + m % 10) :: acc).toArray⟩ := by
  rw [digP]
  apply ByteArray.ext
  simp
/-- The last digits of a number. -/
def lastD (N : Nat) : Nat → List UInt8
  | 0 => []
  | k + 1 => UInt8.ofNat (48 + N / 10 ^ k % 10) :: lastD N k
theorem lastD_len (N : Nat) : ∀ k, (lastD N k).length = k
  | 0 => rfl
  | k + 1 => by simp [lastD, lastD_len N k]
theorem lastD_year (y : Nat) (h1 : 1000 ≤ y) (h2 : y < 10000) : lastD y 4 = Lib.decDigits y := by
  rw [Lib.decDigits, dif_neg (by omega), Lib.decDigits, dif_neg (by omega), Lib.decDigits, dif_neg (by omega), Lib.decDigits, dif_pos (by omega)]
  simp only [lastD]
  simp [Nat.div_div_eq_div_mul]
  rw [Nat.mod_eq_of_lt (show y / 1000 < 10 by omega)]
theorem lastD_two (k : Nat) (h : k < 100) : lastD k 2 = two k := by
  unfold two
  rw [Lib.decDigits, dif_neg (by omega), Lib.decDigits, dif_neg (by omega), Lib.decDigits, dif_pos (by omega)]
  simp only [lastD]
  simp
  constructor
  · congr 1; omega
  · congr 1; omega

set_option maxHeartbeats 2000000 in
theorem refDig_any (N W : Nat) (hN : N ≤ 100000) (hW : W ≤ 4) (w : World) :
    Calls Tryd.prog 29 #[.int .i64 N, .int .i64 W] w fun e w' => e = .returned (.string ⟨(lastD N W).toArray⟩) ∧ w = w' := by
  go_enter Tryd.func29, Tryd.ntmps29
  go_wp2_with fail
  go_loop [0, 5, 6] (fun x s i => ∃ (k z : Nat) (acc : List UInt8), k ≤ W ∧ x = .int .i64 z ∧ z ≤ 100000 ∧ Hid (z = N / 10 ^ k) ∧ s = .string ⟨acc.toArray⟩ ∧ Hid (acc = lastD N k) ∧ i = .int .i64 k) (fun _ _ i => W - (intOf i).toNat)
  case atStart => exact ⟨0, N, [], by omega, rfl, hN, Lib.hid (by simp), rfl, Lib.hid rfl, rfl⟩
  case round =>
    obtain ⟨k, z, acc, hk, rfl, hz, Hz, rfl, Ha, rfl⟩ := hrel
    have hl : acc.length ≤ 4 := by rw [Ha.out, lastD_len]; omega
    by_cases hlt : k < W
    · have Hn : Hid (UInt8.ofNat (48 + z % 10) :: acc = lastD N (k + 1)) := by rw [Hz.out, Ha.out]; exact Lib.hid rfl
      go_wp2
      go_round
      case rel => exact ⟨k + 1, z / 10, _, by omega, by go_num, by omega, Lib.hid (by rw [Hz.out, Nat.div_div_eq_div_mul, Nat.pow_succ]), by rw [digC], Hn, by go_num⟩
      case measure => simp [intOf]; omega
    · have hkW : k = W := by omega
      subst hkW
      go_wp2
      go_ret
      exact ⟨ret_str (by rw [Ha.out]), rfl⟩

theorem refText_bad (n : Int) (h : ¬ (0 ≤ n ∧ n ≤ 40000)) (w : World) :
    Calls Tryd.prog 14 #[.int .i64 n] w fun e w' => e = .returned (.tuple #[.string ⟨#[]⟩, .int .i64 13]) ∧ w = w' := by
  have HD : Hid (Calls Tryd.prog 10 #[.int .i64 n] w fun e w' => e = .returned (.tuple #[.int .i64 0, .int .i64 0, .int .i64 0, .int .i64 13]) ∧ w = w') := Lib.hid (refDate_bad n h w)
  clear h
  go_enter Tryd.func14, Tryd.ntmps14
  go_wp2_with fail
  refine HD.out.mono ?_
  rintro e _ ⟨rfl, rfl⟩
  go_wp2
  go_ret2
  exact ⟨rfl, rfl⟩

set_option maxHeartbeats 2000000 in
theorem refText_good (n : Int) (K y m d : Nat) (hK : K ≤ 1320) (h1 : Cal.cum K ≤ n) (h2 : n < Cal.cum (K + 1)) (h : 0 ≤ n ∧ n ≤ 40000) (hy : (y : Int) = Cal.yr K) (hm : (m : Int) = Cal.mo K) (hd : (d : Int) = n - Cal.cum K + 1) (w : World) :
    Calls Tryd.prog 14 #[.int .i64 n] w fun e w' => e = .returned (.tuple #[.string ⟨(dateText y m d).toArray⟩, .int .i64 0]) ∧ Below w.heap.size w w' := by
  have HD : Hid (Calls Tryd.prog 10 #[.int .i64 n] w fun e w' => e = .returned (.tuple #[.int .i64 y, .int .i64 m, .int .i64 d, .int .i64 0]) ∧ Below w.heap.size w w') := by
    rw [hy, hm, hd]; exact Lib.hid (refDate_good n K hK h1 h2 h w)
  have yb : 2000 ≤ y ∧ y ≤ 2110 := by have : Cal.yr K = 2000 + ((K / 12 : Nat) : Int) := rfl; omega
  have mb : m ≤ 12 := by have := (Cal.mo_bd K).2; omega
  have db : d ≤ 31 := by have := Cal.len_bd K; have hl : Cal.cum (K + 1) = Cal.cum K + Cal.len K := rfl; omega
  obtain ⟨Y, HY⟩ : ∃ Y, Hid (Y = lastD y 4) := ⟨_, Lib.hid rfl⟩
  obtain ⟨M, HM⟩ : ∃ Y, Hid (Y = lastD m 2) := ⟨_, Lib.hid rfl⟩
  obtain ⟨D, HDd⟩ : ∃ Y, Hid (Y = lastD d 2) := ⟨_, Lib.hid rfl⟩
  have ly : Y.length ≤ 4 := by rw [HY.out, lastD_len]; omega
  have lm : M.length ≤ 2 := by rw [HM.out, lastD_len]; omega
  have ld : D.length ≤ 2 := by rw [HDd.out, lastD_len]; omega
  have I1 : Hid (∀ W, Calls Tryd.prog 29 #[.int .i64 y, .int .i64 4] W fun e w' => e = .returned (.string ⟨Y.toArray⟩) ∧ W = w') := Lib.hid fun W => by rw [HY.out]; exact refDig_any y 4 (by omega) (by omega) W
  have I2 : Hid (∀ W, Calls Tryd.prog 29 #[.int .i64 m, .int .i64 2] W fun e w' => e = .returned (.string ⟨M.toArray⟩) ∧ W = w') := Lib.hid fun W => by rw [HM.out]; exact refDig_any m 2 (by omega) (by omega) W
  have I3 : Hid (∀ W, Calls Tryd.prog 29 #[.int .i64 d, .int .i64 2] W fun e w' => e = .returned (.string ⟨D.toArray⟩) ∧ W = w') := Lib.hid fun W => by rw [HDd.out]; exact refDig_any d 2 (by omega) (by omega) W
  have Hres : Hid (dateText y m d = Y ++ [45] ++ M ++ [45] ++ D) := by rw [HY.out, HM.out, HDd.out, lastD_year y (by omega) (by omega), lastD_two m (by omega), lastD_two d (by omega)]; exact Lib.hid rfl
  rw [Hres.out]
  clear h h1 h2 hy hm hd yb mb db
  go_enter Tryd.func14, Tryd.ntmps14
  go_wp2_with fail
  refine HD.out.mono ?_
  rintro e w1 ⟨rfl, hb⟩
  go_wp2_with fail
  refine (I1.out _).mono ?_
  rintro e _ ⟨rfl, rfl⟩
  go_wp2_with fail
  refine (I2.out _).mono ?_
  rintro e _ ⟨rfl, rfl⟩
  go_wp2_with fail
  refine (I3.out _).mono ?_
  rintro e _ ⟨rfl, rfl⟩
  go_wp2
  go_ret2
  refine ⟨?_, hb⟩
  congr 1

/-- The value of a text of digits; other bytes count as 0. -/
def valN : List UInt8 → Nat := fun l => l.foldl (fun n c => 10 * n + (if 48 ≤ c.toNat ∧ c.toNat ≤ 57 then c.toNat - 48 else 0)) 0
theorem valN_snoc (l : List UInt8) (c : UInt8) : valN (l ++ [c]) = 10 * valN l + (if 48 ≤ c.toNat ∧ c.toNat ≤ 57 then c.toNat - 48 else 0) := by
  simp [valN]
theorem valN_take (l : List UInt8) (k : Nat) (h : k < l.length) : valN (l.take (k + 1)) = 10 * valN (l.take k) + (if 48 ≤ l[k].toNat ∧ l[k].toNat ≤ 57 then l[k].toNat - 48 else 0) := by
  rw [List.take_succ_eq_append_getElem h, valN_snoc]
theorem valN_lt (l : List UInt8) : ∀ k, k ≤ l.length → valN (l.take k) < 10 ^ k
  | 0, _ => by simp [valN]
  | k + 1, h => by
    have ih := valN_lt l k (by omega)
    rw [valN_take l k (by omega), Nat.pow_succ]
    split <;> omega

set_option maxHeartbeats 2000000 in
theorem refVal_any (s : ByteArray) (hs : s.size ≤ 4) (w : World) :
    Calls Tryd.prog 31 #[.string s] w fun e w' => e = .returned (.int .i64 (valN s.data.toList)) ∧ w = w' := by
  go_enter Tryd.func31, Tryd.ntmps31
  go_wp2_with fail
  go_loop [3, 4] (fun x i => ∃ k z : Nat, k ≤ s.size ∧ x = .int .i64 z ∧ z ≤ 10000 ∧ Hid (z = valN (s.data.toList.take k)) ∧ i = .int .i64 k) (fun _ i => s.size - (intOf i).toNat)
  case atStart => exact ⟨0, 0, by omega, rfl, by omega, Lib.hid (by simp [valN]), rfl⟩
  case round =>
    obtain ⟨k, z, hk, rfl, hz, Hz, rfl⟩ := hrel
    by_cases hlt : k < s.size
    · have hnx := valN_take s.data.toList k hlt
      have hnl : valN (s.data.toList.take (k + 1)) ≤ 10000 := by
        have := valN_lt s.data.toList (k + 1) hlt
        have h4 : (10 : Nat) ^ (k + 1) ≤ 10 ^ 4 := Nat.pow_le_pow_right (by decide) (by omega)
        omega
      have eg : s.data.toList[k] = s[k] := rfl
      rw [eg, ← Hz.out] at hnx
      have Hnx := Lib.hid hnx
      have Hnl := Lib.hid hnl
      clear hnx hnl eg
      have hcl : (s[k].toNat : Int) < 256 := by have := s[k].toNat_lt; omega
      by_cases h1 : 48 ≤ s[k].toNat
      · have f1 : decide (48 ≤ (s[k].toNat : Int)) = true := decide_eq_true (by omega)
        by_cases h2 : s[k].toNat ≤ 57
        · have f2 : decide ((s[k].toNat : Int) ≤ 57) = true := decide_eq_true (by omega)
          have e3 : IntKind.u8.wrap ((s[k].toNat : Int) - 48) = (s[k].toNat : Int) - 48 := by rw [IntKind.wrap_u8]; omega
          have e4 : IntKind.i64.wrap ((s[k].toNat : Int) - 48) = (s[k].toNat : Int) - 48 := by rw [IntKind.wrap_i64]; omega
          have e5 : IntKind.i64.wrap (10 * (z : Int) + ((s[k].toNat : Int) - 48)) = 10 * (z : Int) + ((s[k].toNat : Int) - 48) := by rw [IntKind.wrap_i64]; omega
          have Hv : Hid (valN (s.data.toList.take (k + 1)) = 10 * z + (s[k].toNat - 48)) := by rw [Hnx.out, if_pos ⟨h1, h2⟩]; exact Lib.hid rfl
          go_wp2
          go_round
          case rel => exact ⟨k + 1, _, by omega, by rw [Hv.out]; go_num, Hnl.out, Lib.hid rfl, by go_num⟩
          case measure => simp [intOf]; omega
        · have f2 : decide ((s[k].toNat : Int) ≤ 57) = false := decide_eq_false (by omega)
          have Hv : Hid (valN (s.data.toList.take (k + 1)) = 10 * z) := by rw [Hnx.out, if_neg (by omega)]; exact Lib.hid rfl
          go_wp2
          go_round
          case rel => exact ⟨k + 1, _, by omega, by rw [Hv.out]; go_num, Hnl.out, Lib.hid rfl, by go_num⟩
          case measure => simp [intOf]; omega
      · have f1 : decide (48 ≤ (s[k].toNat : Int)) = false := decide_eq_false (by omega)
        have Hv : Hid (valN (s.data.toList.take (k + 1)) = 10 * z) := by rw [Hnx.out, if_neg (by omega)]; exact Lib.hid rfl
        go_wp2
        go_round
        case rel => exact ⟨k + 1, _, by omega, by rw [Hv.out]; go_num, Hnl.out, Lib.hid rfl, by go_num⟩
        case measure => simp [intOf]; omega
    · have hke : k = s.size := by omega
      have Hf : Hid (z = valN s.data.toList) := by rw [Hz.out, hke, show List.take s.size s.data.toList = s.data.toList from List.take_of_length_le (Nat.le_of_eq rfl)]; exact Lib.hid rfl
      clear hke
      go_wp2
      go_ret
      exact ⟨ret_int (by rw [Hf.out]), rfl⟩

end Go.Proofs.YthnipdcdiffioabDoor
