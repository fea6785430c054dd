/- The reference's letter, digit, word. -/
import Derived.Test.YtolnpimnoajcaaaLexMath
import Derived.Test.YtolnpimnoajcaaaTwo
import Derived.Test.YtolnpimnoajcaaaOnly
import Derived.Test.YtolnpimnoajcaaaLexName
namespace Go.Proofs.Ytolnpimnoajcaaa
open Go.RowKit

set_option maxRecDepth 100000 in
set_option maxHeartbeats 1600000 in
theorem refLetter_any (c : UInt8) (w : World) : Calls Try.prog 72 #[.int .u8 (c.toNat : Int)] w fun e w' => e = .returned (.bool (Lex.isLetter c)) ∧ w = w' := by
  obtain ⟨v, Hv⟩ : ∃ v, Hid (v = Lex.isLetter c) := ⟨_, Lib.hid rfl⟩
  rw [← Hv.out]
  by_cases h1 : 97 ≤ c.toNat
  · have d1 : decide ((97 : Int) ≤ c.toNat) = true := decide_eq_true (by omega)
    by_cases h2 : c.toNat ≤ 122
    · have d2 : decide ((c.toNat : Int) ≤ 122) = true := decide_eq_true (by omega)
      have hv : v = true := by rw [Hv.out]; unfold Lex.isLetter; rw [decide_eq_true]; omega
      subst hv
      clear h1 h2
      go_enter Try.func72, Try.ntmps72
      go_wp2_with fail
      go_ret
      exact ⟨rfl, rfl⟩
    · have d2 : decide ((c.toNat : Int) ≤ 122) = false := decide_eq_false (by omega)
      have d3 : decide ((65 : Int) ≤ c.toNat) = true := decide_eq_true (by omega)
      have d4 : decide ((c.toNat : Int) ≤ 90) = false := decide_eq_false (by omega)
      have hv : v = false := by rw [Hv.out]; unfold Lex.isLetter; rw [decide_eq_false]; omega
      subst hv
      clear h1 h2
      go_enter Try.func72, Try.ntmps72
      go_wp2_with fail
      go_ret
      exact ⟨rfl, rfl⟩
  · have d1 : decide ((97 : Int) ≤ c.toNat) = false := decide_eq_false (by omega)
    by_cases h3 : 65 ≤ c.toNat
    · have d3 : decide ((65 : Int) ≤ c.toNat) = true := decide_eq_true (by omega)
      by_cases h4 : c.toNat ≤ 90
      · have d4 : decide ((c.toNat : Int) ≤ 90) = true := decide_eq_true (by omega)
        have hv : v = true := by rw [Hv.out]; unfold Lex.isLetter; rw [decide_eq_true]; omega
        subst hv
        clear h1 h3 h4
        go_enter Try.func72, Try.ntmps72
        go_wp2_with fail
        go_ret
        exact ⟨rfl, rfl⟩
      · have d4 : decide ((c.toNat : Int) ≤ 90) = false := decide_eq_false (by omega)
        have hv : v = false := by rw [Hv.out]; unfold Lex.isLetter; rw [decide_eq_false]; omega
        subst hv
        clear h1 h3 h4
        go_enter Try.func72, Try.ntmps72
        go_wp2_with fail
        go_ret
        exact ⟨rfl, rfl⟩
    · have d3 : decide ((65 : Int) ≤ c.toNat) = false := decide_eq_false (by omega)
      have hv : v = false := by rw [Hv.out]; unfold Lex.isLetter; rw [decide_eq_false]; omega
      subst hv
      clear h1 h3
      go_enter Try.func72, Try.ntmps72
      go_wp2_with fail
      go_ret
      exact ⟨rfl, rfl⟩

set_option maxRecDepth 100000 in
set_option maxHeartbeats 1600000 in
theorem refDigit_any (c : UInt8) (w : World) : Calls Try.prog 80 #[.int .u8 (c.toNat : Int)] w fun e w' => e = .returned (.bool (Lex.isDigit c)) ∧ w = w' := by
  obtain ⟨v, Hv⟩ : ∃ v, Hid (v = Lex.isDigit c) := ⟨_, Lib.hid rfl⟩
  rw [← Hv.out]
  by_cases h1 : 48 ≤ c.toNat
  · have d1 : decide ((48 : Int) ≤ c.toNat) = true := decide_eq_true (by omega)
    by_cases h2 : c.toNat ≤ 57
    · have d2 : decide ((c.toNat : Int) ≤ 57) = true := decide_eq_true (by omega)
      have hv : v = true := by rw [Hv.out]; unfold Lex.isDigit; rw [decide_eq_true]; omega
      subst hv
      clear h1 h2
      go_enter Try.func80, Try.ntmps80
      go_wp2_with fail
      go_ret
      exact ⟨rfl, rfl⟩
    · have d2 : decide ((c.toNat : Int) ≤ 57) = false := decide_eq_false (by omega)
      have hv : v = false := by rw [Hv.out]; unfold Lex.isDigit; rw [decide_eq_false]; omega
      subst hv
      clear h1 h2
      go_enter Try.func80, Try.ntmps80
      go_wp2_with fail
      go_ret
      exact ⟨rfl, rfl⟩
  · have d1 : decide ((48 : Int) ≤ c.toNat) = false := decide_eq_false (by omega)
    have hv : v = false := by rw [Hv.out]; unfold Lex.isDigit; rw [decide_eq_false]; omega
    subst hv
    clear h1
    go_enter Try.func80, Try.ntmps80
    go_wp2_with fail
    go_ret
    exact ⟨rfl, rfl⟩

set_option maxRecDepth 100000 in
set_option maxHeartbeats 1600000 in
theorem refWord_any (c : UInt8) (w : World) : Calls Try.prog 71 #[.int .u8 (c.toNat : Int)] w fun e w' => e = .returned (.bool (Lex.isWord c)) ∧ w = w' := by
  obtain ⟨v, Hv⟩ : ∃ v, Hid (v = Lex.isWord c) := ⟨_, Lib.hid rfl⟩
  rw [← Hv.out]
  have HL := Lib.hid (fun w => refLetter_any c w)
  have HD := Lib.hid (fun w => refDigit_any c w)
  cases hl : Lex.isLetter c with
  | true =>
    have hv : v = true := by rw [Hv.out]; unfold Lex.isWord; rw [hl]; rfl
    subst hv
    rw [hl] at HL
    clear hl
    go_enter Try.func71, Try.ntmps71
    go_wp2_with (first | (go_at_call 72; refine (HL.out _).mono ?_; rintro e w2 ⟨rfl, rfl⟩) | (go_at_call 80; refine (HD.out _).mono ?_; rintro e w2 ⟨rfl, rfl⟩))
    go_ret
    exact ⟨rfl, rfl⟩
  | false =>
    rw [hl] at HL
    cases hdg : Lex.isDigit c with
    | true =>
      have hv : v = true := by rw [Hv.out]; unfold Lex.isWord; rw [hl, hdg]; rfl
      subst hv
      rw [hdg] at HD
      clear hl hdg
      go_enter Try.func71, Try.ntmps71
      go_wp2_with (first | (go_at_call 72; refine (HL.out _).mono ?_; rintro e w2 ⟨rfl, rfl⟩) | (go_at_call 80; refine (HD.out _).mono ?_; rintro e w2 ⟨rfl, rfl⟩))
      go_ret
      exact ⟨rfl, rfl⟩
    | false =>
      rw [hdg] at HD
      by_cases h95 : c.toNat = 95
      · have e95 : ((c.toNat : Int) == 95) = true := by rw [h95]; rfl
        have hv : v = true := by rw [Hv.out]; unfold Lex.isWord; rw [decide_eq_true h95, Bool.or_true]
        subst hv
        clear hl hdg h95
        go_enter Try.func71, Try.ntmps71
        go_wp2_with (first | (go_at_call 72; refine (HL.out _).mono ?_; rintro e w2 ⟨rfl, rfl⟩) | (go_at_call 80; refine (HD.out _).mono ?_; rintro e w2 ⟨rfl, rfl⟩))
        go_ret
        exact ⟨rfl, rfl⟩
      · have e95 : ((c.toNat : Int) == 95) = false := by
          have : ((c.toNat : Int) == 95) = decide ((c.toNat : Int) = 95) := rfl
          rw [this, decide_eq_false]; omega
        have hv : v = false := by rw [Hv.out]; unfold Lex.isWord; rw [hl, hdg, decide_eq_false h95]; rfl
        subst hv
        clear hl hdg h95
        go_enter Try.func71, Try.ntmps71
        go_wp2_with (first | (go_at_call 72; refine (HL.out _).mono ?_; rintro e w2 ⟨rfl, rfl⟩) | (go_at_call 80; refine (HD.out _).mono ?_; rintro e w2 ⟨rfl, rfl⟩))
        go_ret
        exact ⟨rfl, rfl⟩

end Go.Proofs.Ytolnpimnoajcaaa

/- The reference's Name. -/
namespace Go.Proofs.Ytolnpimnoajcaaa
open Go.RowKit

set_option maxRecDepth 100000 in
set_option maxHeartbeats 1600000 in
theorem refName_any (S : ByteArray) (hS : S.size ≤ 140737488351232) (w : World) : Calls Try.prog 57 #[.string S] w fun e w' => e = .returned (.bool (Lex.nameB S.data.toList)) ∧ w = w' := by
  obtain ⟨v, Hv⟩ : ∃ v, Hid (v = Lex.nameB S.data.toList) := ⟨_, Lib.hid rfl⟩
  rw [← Hv.out]
  go_enter Try.func57, Try.ntmps57
  go_wp2_with fail
  go_loopw [3] (fun i wr => ∃ k : Nat, k ≤ S.size ∧ wr = w ∧ i = .int .i64 k ∧ Hid ((S.data.toList.take k).all Lex.isWord = true)) (fun i _ => S.size - (intOf i).toNat)
  case atStart => exact ⟨0, Nat.zero_le _, rfl, by go_num, Lib.hid rfl⟩
  case round =>
    obtain ⟨k, hk, hw, rfl, HR⟩ := hrel
    replace hw := hw.symm
    subst hw
    by_cases hkS : k < S.size
    · have hd : decide ((k : Int) < (S.size : Int)) = true := decide_eq_true (by omega)
      have hb0 : (0 : Int) ≤ k := by omega
      have hb1 : (k : Int) < (S.size : Int) := by omega
      obtain ⟨x, Hx⟩ : ∃ c, Hid (c = S[k]) := ⟨_, Lib.hid rfl⟩
      have hTx : S[k] = x := Hx.out.symm
      have HW := Lib.hid (refWord_any x w)
      have HA := Lib.hid (Lex.all_take hkS)
      have HNA := Lib.hid (Lex.not_all hkS)
      rw [hTx] at HA HNA
      go_wp2_with fail
      refine HW.out.mono ?_
      rintro e w' ⟨rfl, hw'⟩
      subst hw'
      cases hwd : Lex.isWord x with
      | true =>
        have HN : Hid ((S.data.toList.take (k + 1)).all Lex.isWord = true) := Lib.hid (by rw [HA.out, HR.out, hwd]; rfl)
        clear hwd
        go_wp2_with fail
        go_round
        case rel => exact ⟨k + 1, by omega, trivial, by go_num, HN⟩
        case measure => simp [intOf]; omega
      | false =>
        have hv : v = false := by
          rw [Hv.out, Lex.name_head (by omega), HNA.out hwd, Bool.and_false, Bool.false_and]
        subst hv
        clear hwd
        go_wp2_with fail
        go_ret
        exact ⟨rfl, rfl⟩
    · have hd : decide ((k : Int) < (S.size : Int)) = false := decide_eq_false (by omega)
      have hall : S.data.toList.all Lex.isWord = true := by
        have := HR.out
        rwa [List.take_of_length_le (show S.data.toList.length ≤ k by show S.size ≤ k; omega)] at this
      by_cases h0 : S.size = 0
      · have d0 : decide ((0 : Int) < S.size) = false := decide_eq_false (by omega)
        have hv : v = false := by
          rw [Hv.out]
          have : S.data.toList = [] := List.eq_nil_of_length_eq_zero h0
          rw [this]; rfl
        subst hv
        clear hall
        have dn : decide (0 < S.size) = false := decide_eq_false (by omega)
        go_wp2_with fail
        go_ret
        exact ⟨rfl, rfl⟩
      · have d0 : decide ((0 : Int) < S.size) = true := decide_eq_true (by omega)
        have hb0 : (0 : Int) < S.size := by omega
        by_cases h24 : S.size ≤ 24
        · have d1 : decide ((S.size : Int) ≤ 24) = true := decide_eq_true (by omega)
          obtain ⟨c, Hc⟩ : ∃ c, Hid (c = S[0]'(by omega)) := ⟨_, Lib.hid rfl⟩
          have hTc : S[0]'(by omega) = c := Hc.out.symm
          have HL := Lib.hid (refLetter_any c w)
          have hv : v = Lex.isLetter c := by rw [Hv.out, Lex.name_head (by omega), hall, decide_eq_true h24, Bool.and_self, Bool.true_and, ← Hc.out]
          rw [← hv] at HL
          clear hall hv
          go_wp2_with fail
          refine HL.out.mono ?_
          rintro e w' ⟨rfl, hw'⟩
          subst hw'
          go_wp2_with fail
          go_ret
          exact ⟨rfl, rfl⟩
        · have d1 : decide ((S.size : Int) ≤ 24) = false := decide_eq_false (by omega)
          have hv : v = false := by rw [Hv.out, Lex.name_head (by omega), decide_eq_false h24, Bool.false_and, Bool.false_and]
          subst hv
          clear hall h0 h24
          go_wp2_with fail
          go_ret
          exact ⟨rfl, rfl⟩

end Go.Proofs.Ytolnpimnoajcaaa
