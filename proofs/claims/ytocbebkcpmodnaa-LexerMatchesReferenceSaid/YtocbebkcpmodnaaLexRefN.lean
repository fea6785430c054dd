/- The reference's Name. -/
import Derived.Test.YtocbebkcpmodnaaLexName
import Derived.Test.YtocbebkcpmodnaaLexRefW
namespace Go.Proofs.Ytocbebkcpmodnaa
open Go.RowKit

set_option maxRecDepth 100000 in
set_option maxHeartbeats 1600000 in
theorem refName_any (S : ByteArray) (hS : S.size ≤ 140737488351232) (w : World) : Calls Try.prog 16 #[.string S] w fun e w' => e = .returned (.bool (Lex.nameB S.data.toList)) ∧ w = w' := by
  obtain ⟨v, Hv⟩ : ∃ v, Hid (v = Lex.nameB S.data.toList) := ⟨_, Lib.hid rfl⟩
  rw [← Hv.out]
  go_enter Try.func16, Try.ntmps16
  go_wp2_with fail
  go_loopw [3] (fun i wr => ∃ k : Nat, k ≤ S.size ∧ wr = w ∧ i = .int .i64 k ∧ Hid ((S.data.toList.take k).all Lex.isWord = true)) (fun i _ => S.size - (intOf i).toNat)
  case atStart => exact ⟨0, Nat.zero_le _, rfl, by go_num, Lib.hid rfl⟩
  case round =>
    obtain ⟨k, hk, hw, rfl, HR⟩ := hrel
    replace hw := hw.symm
    subst hw
    by_cases hkS : k < S.size
    · have hd : decide ((k : Int) < (S.size : Int)) = true := decide_eq_true (by omega)
      have hb0 : (0 : Int) ≤ k := by omega
      have hb1 : (k : Int) < (S.size : Int) := by omega
      obtain ⟨x, Hx⟩ : ∃ c, Hid (c = S[k]) := ⟨_, Lib.hid rfl⟩
      have hTx : S[k] = x := Hx.out.symm
      have HW := Lib.hid (refWord_any x w)
      have HA := Lib.hid (Lex.all_take hkS)
      have HNA := Lib.hid (Lex.not_all hkS)
      rw [hTx] at HA HNA
      go_wp2_with fail
      refine HW.out.mono ?_
      rintro e w' ⟨rfl, hw'⟩
      subst hw'
      cases hwd : Lex.isWord x with
      | true =>
        have HN : Hid ((S.data.toList.take (k + 1)).all Lex.isWord = true) := Lib.hid (by rw [HA.out, HR.out, hwd]; rfl)
        clear hwd
        go_wp2_with fail
        go_round
        case rel => exact ⟨k + 1, by omega, trivial, by go_num, HN⟩
        case measure => simp [intOf]; omega
      | false =>
        have hv : v = false := by
          rw [Hv.out, Lex.name_head (by omega), HNA.out hwd, Bool.and_false, Bool.false_and]
        subst hv
        clear hwd
        go_wp2_with fail
        go_ret
        exact ⟨rfl, rfl⟩
    · have hd : decide ((k : Int) < (S.size : Int)) = false := decide_eq_false (by omega)
      have hall : S.data.toList.all Lex.isWord = true := by
        have := HR.out
        rwa [List.take_of_length_le (show S.data.toList.length ≤ k by show S.size ≤ k; omega)] at this
      by_cases h0 : S.size = 0
      · have d0 : decide ((0 : Int) < S.size) = false := decide_eq_false (by omega)
        have hv : v = false := by
          rw [Hv.out]
          have : S.data.toList = [] := List.eq_nil_of_length_eq_zero h0
          rw [this]; rfl
        subst hv
        clear hall
        have dn : decide (0 < S.size) = false := decide_eq_false (by omega)
        go_wp2_with fail
        go_ret
        exact ⟨rfl, rfl⟩
      · have d0 : decide ((0 : Int) < S.size) = true := decide_eq_true (by omega)
        have hb0 : (0 : Int) < S.size := by omega
        by_cases h24 : S.size ≤ 24
        · have d1 : decide ((S.size : Int) ≤ 24) = true := decide_eq_true (by omega)
          obtain ⟨c, Hc⟩ : ∃ c, Hid (c = S[0]'(by omega)) := ⟨_, Lib.hid rfl⟩
          have hTc : S[0]'(by omega) = c := Hc.out.symm
          have HL := Lib.hid (refLetter_any c w)
          have hv : v = Lex.isLetter c := by rw [Hv.out, Lex.name_head (by omega), hall, decide_eq_true h24, Bool.and_self, Bool.true_and, ← Hc.out]
          rw [← hv] at HL
          clear hall hv
          go_wp2_with fail
          refine HL.out.mono ?_
          rintro e w' ⟨rfl, hw'⟩
          subst hw'
          go_wp2_with fail
          go_ret
          exact ⟨rfl, rfl⟩
        · have d1 : decide ((S.size : Int) ≤ 24) = false := decide_eq_false (by omega)
          have hv : v = false := by rw [Hv.out, Lex.name_head (by omega), decide_eq_false h24, Bool.false_and, Bool.false_and]
          subst hv
          clear hall h0 h24
          go_wp2_with fail
          go_ret
          exact ⟨rfl, rfl⟩

end Go.Proofs.Ytocbebkcpmodnaa
