/- The walks of money's reference: texts and their values. -/
import Derived.Test.YtijnnfioggjaeaaDoorMonRefA
import Derived.Test.YtijnnfioggjaeaaDoorMonText
namespace Go.Proofs.YtijnnfioggjaeaaDoor
open Go.RowKit

set_option maxHeartbeats 1000000 in
theorem refText03_no (n : Int) (h : ¬ (0 ≤ n ∧ n ≤ 1000000000000)) (w : World) :
    Calls Tryd.prog 11 #[.int .i64 n] w fun e w' => e = .returned (.tuple #[.string ⟨#[]⟩, .int .i64 1]) ∧ w = w' := by
  have Hd := refIs_any n w
  rw [Mon.amt_no h] at Hd
  have HD := Lib.hid Hd
  clear h Hd
  go_enter Tryd.func11, Tryd.ntmps11
  go_wp2_with fail
  refine HD.out.mono ?_
  rintro e _ ⟨rfl, rfl⟩
  go_wp2
  go_ret2
  exact ⟨rfl, rfl⟩

theorem mtext_parts (n : Nat) : Mon.mtext n = Lib.decDigits (n / 100) ++ [46] ++ Lib.decDigits (n / 10 % 10) ++ Lib.decDigits (n % 10) := by
  unfold Mon.mtext
  rw [Mon.cents_eq _ (by omega), Lib.decDigits_one (show n / 10 % 10 < 10 by omega), Lib.decDigits_one (show n % 10 < 10 by omega)]
  have e1 : n % 100 / 10 = n / 10 % 10 := by omega
  have e2 : n % 100 % 10 = n % 10 := by omega
  rw [e1, e2]
  simp

set_option maxHeartbeats 2000000 in
theorem refText03_yes (n : Nat) (h : n ≤ 1000000000000) (w : World) :
    Calls Tryd.prog 11 #[.int .i64 n] w fun e w' => e = .returned (.tuple #[.string ⟨(Mon.mtext n).toArray⟩, .int .i64 0]) ∧ w = w' := by
  have Hd := refIs_any n w
  rw [Mon.amt_iff.2 ⟨by omega, by omega⟩] at Hd
  have HD := Lib.hid Hd
  clear Hd
  obtain ⟨A, HA⟩ : ∃ Y, Hid (Y = Lib.decDigits (n / 100)) := ⟨_, Lib.hid rfl⟩
  obtain ⟨B, HB⟩ : ∃ Y, Hid (Y = Lib.decDigits (n / 10 % 10)) := ⟨_, Lib.hid rfl⟩
  obtain ⟨C, HC⟩ : ∃ Y, Hid (Y = Lib.decDigits (n % 10)) := ⟨_, Lib.hid rfl⟩
  obtain ⟨a, Ha⟩ : ∃ Y : Nat, Hid (Y = n / 100) := ⟨_, Lib.hid rfl⟩
  obtain ⟨d, Hdd⟩ : ∃ Y : Nat, Hid (Y = n / 10) := ⟨_, Lib.hid rfl⟩
  obtain ⟨b, Hb⟩ : ∃ Y : Nat, Hid (Y = n / 10 % 10) := ⟨_, Lib.hid rfl⟩
  obtain ⟨c, Hc⟩ : ∃ Y : Nat, Hid (Y = n % 10) := ⟨_, Lib.hid rfl⟩
  have I1 : Hid (∀ W, Calls Tryd.prog 24 #[.int .i64 a] W fun e w' => e = .returned (.string ⟨A.toArray⟩) ∧ W = w') := Lib.hid fun W => by rw [HA.out, Ha.out]; exact refDec_any _ (by omega) W
  have I2 : Hid (∀ W, Calls Tryd.prog 24 #[.int .i64 b] W fun e w' => e = .returned (.string ⟨B.toArray⟩) ∧ W = w') := Lib.hid fun W => by rw [HB.out, Hb.out]; exact refDec_any _ (by omega) W
  have I3 : Hid (∀ W, Calls Tryd.prog 24 #[.int .i64 c] W fun e w' => e = .returned (.string ⟨C.toArray⟩) ∧ W = w') := Lib.hid fun W => by rw [HC.out, Hc.out]; exact refDec_any _ (by omega) W
  have Hres : Hid (Mon.mtext n = A ++ [46] ++ B ++ C) := by rw [HA.out, HB.out, HC.out]; exact Lib.hid (mtext_parts n)
  rw [Hres.out]
  have e1 : (n : Int).tdiv 100 = a := by rw [Ha.out]; rw [Int.tdiv_eq_ediv_of_nonneg (by omega)]; omega
  have e2 : (n : Int) / 100 = a := by rw [Ha.out]; omega
  have e3 : (n : Int).tdiv 10 = d := by rw [Hdd.out]; rw [Int.tdiv_eq_ediv_of_nonneg (by omega)]; omega
  have e4 : (n : Int) / 10 = d := by rw [Hdd.out]; omega
  have e5 : (d : Int).tmod 10 = b := by rw [Hb.out, Hdd.out]; rw [Int.tmod_eq_emod_of_nonneg (by omega)]; omega
  have e6 : (d : Int) % 10 = b := by rw [Hb.out, Hdd.out]; omega
  have e7 : (n : Int).tmod 10 = c := by rw [Hc.out]; rw [Int.tmod_eq_emod_of_nonneg (by omega)]; omega
  have e8 : (n : Int) % 10 = c := by rw [Hc.out]; omega
  have ha : (a : Int) ≤ 10000000000 := by have := Ha.out; omega
  have hd : (d : Int) ≤ 100000000000 := by have := Hdd.out; omega
  have hb : (b : Int) ≤ 9 := by have := Hb.out; omega
  have hc : (c : Int) ≤ 9 := by have := Hc.out; omega
  have la : A.length ≤ 11 := by rw [HA.out]; exact Mon.dec_len 10 _ (by omega)
  have lb : B.length ≤ 1 := by rw [HB.out]; exact Mon.dec_len 0 _ (by omega)
  have lc : C.length ≤ 1 := by rw [HC.out]; exact Mon.dec_len 0 _ (by omega)
  clear h
  go_enter Tryd.func11, Tryd.ntmps11
  go_wp2_with fail
  refine HD.out.mono ?_
  rintro e _ ⟨rfl, rfl⟩
  go_wp2_with fail
  refine (I1.out _).mono ?_
  rintro e _ ⟨rfl, rfl⟩
  go_wp2_with fail
  refine (I2.out _).mono ?_
  rintro e _ ⟨rfl, rfl⟩
  go_wp2_with fail
  refine (I3.out _).mono ?_
  rintro e _ ⟨rfl, rfl⟩
  go_wp2
  go_ret2
  refine ⟨?_, rfl⟩
  show Ending.returned (.tuple #[.string ((⟨A.toArray⟩ : ByteArray) ++ ⟨#[46]⟩ ++ ⟨B.toArray⟩ ++ ⟨C.toArray⟩), .int .i64 0]) = _
  have e : (⟨A.toArray⟩ : ByteArray) ++ ⟨#[46]⟩ ++ ⟨B.toArray⟩ ++ ⟨C.toArray⟩ = ⟨(A ++ [46] ++ B ++ C).toArray⟩ := by apply ByteArray.ext; simp
  rw [e]

end Go.Proofs.YtijnnfioggjaeaaDoor
