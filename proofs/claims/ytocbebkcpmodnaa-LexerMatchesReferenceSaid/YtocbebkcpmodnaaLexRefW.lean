/- The reference's letter, digit, word. -/
import Derived.Test.YtocbebkcpmodnaaLexRd
namespace Go.Proofs.Ytocbebkcpmodnaa
open Go.RowKit

set_option maxRecDepth 100000 in
set_option maxHeartbeats 1600000 in
theorem refLetter_any (c : UInt8) (w : World) : Calls Try.prog 30 #[.int .u8 (c.toNat : Int)] w fun e w' => e = .returned (.bool (Lex.isLetter c)) ∧ w = w' := by
  obtain ⟨v, Hv⟩ : ∃ v, Hid (v = Lex.isLetter c) := ⟨_, Lib.hid rfl⟩
  rw [← Hv.out]
  by_cases h1 : 97 ≤ c.toNat
  · have d1 : decide ((97 : Int) ≤ c.toNat) = true := decide_eq_true (by omega)
    by_cases h2 : c.toNat ≤ 122
    · have d2 : decide ((c.toNat : Int) ≤ 122) = true := decide_eq_true (by omega)
      have hv : v = true := by rw [Hv.out]; unfold Lex.isLetter; rw [decide_eq_true]; omega
      subst hv
      clear h1 h2
      go_enter Try.func30, Try.ntmps30
      go_wp2_with fail
      go_ret
      exact ⟨rfl, rfl⟩
    · have d2 : decide ((c.toNat : Int) ≤ 122) = false := decide_eq_false (by omega)
      have d3 : decide ((65 : Int) ≤ c.toNat) = true := decide_eq_true (by omega)
      have d4 : decide ((c.toNat : Int) ≤ 90) = false := decide_eq_false (by omega)
      have hv : v = false := by rw [Hv.out]; unfold Lex.isLetter; rw [decide_eq_false]; omega
      subst hv
      clear h1 h2
      go_enter Try.func30, Try.ntmps30
      go_wp2_with fail
      go_ret
      exact ⟨rfl, rfl⟩
  · have d1 : decide ((97 : Int) ≤ c.toNat) = false := decide_eq_false (by omega)
    by_cases h3 : 65 ≤ c.toNat
    · have d3 : decide ((65 : Int) ≤ c.toNat) = true := decide_eq_true (by omega)
      by_cases h4 : c.toNat ≤ 90
      · have d4 : decide ((c.toNat : Int) ≤ 90) = true := decide_eq_true (by omega)
        have hv : v = true := by rw [Hv.out]; unfold Lex.isLetter; rw [decide_eq_true]; omega
        subst hv
        clear h1 h3 h4
        go_enter Try.func30, Try.ntmps30
        go_wp2_with fail
        go_ret
        exact ⟨rfl, rfl⟩
      · have d4 : decide ((c.toNat : Int) ≤ 90) = false := decide_eq_false (by omega)
        have hv : v = false := by rw [Hv.out]; unfold Lex.isLetter; rw [decide_eq_false]; omega
        subst hv
        clear h1 h3 h4
        go_enter Try.func30, Try.ntmps30
        go_wp2_with fail
        go_ret
        exact ⟨rfl, rfl⟩
    · have d3 : decide ((65 : Int) ≤ c.toNat) = false := decide_eq_false (by omega)
      have hv : v = false := by rw [Hv.out]; unfold Lex.isLetter; rw [decide_eq_false]; omega
      subst hv
      clear h1 h3
      go_enter Try.func30, Try.ntmps30
      go_wp2_with fail
      go_ret
      exact ⟨rfl, rfl⟩

set_option maxRecDepth 100000 in
set_option maxHeartbeats 1600000 in
theorem refDigit_any (c : UInt8) (w : World) : Calls Try.prog 38 #[.int .u8 (c.toNat : Int)] w fun e w' => e = .returned (.bool (Lex.isDigit c)) ∧ w = w' := by
  obtain ⟨v, Hv⟩ : ∃ v, Hid (v = Lex.isDigit c) := ⟨_, Lib.hid rfl⟩
  rw [← Hv.out]
  by_cases h1 : 48 ≤ c.toNat
  · have d1 : decide ((48 : Int) ≤ c.toNat) = true := decide_eq_true (by omega)
    by_cases h2 : c.toNat ≤ 57
    · have d2 : decide ((c.toNat : Int) ≤ 57) = true := decide_eq_true (by omega)
      have hv : v = true := by rw [Hv.out]; unfold Lex.isDigit; rw [decide_eq_true]; omega
      subst hv
      clear h1 h2
      go_enter Try.func38, Try.ntmps38
      go_wp2_with fail
      go_ret
      exact ⟨rfl, rfl⟩
    · have d2 : decide ((c.toNat : Int) ≤ 57) = false := decide_eq_false (by omega)
      have hv : v = false := by rw [Hv.out]; unfold Lex.isDigit; rw [decide_eq_false]; omega
      subst hv
      clear h1 h2
      go_enter Try.func38, Try.ntmps38
      go_wp2_with fail
      go_ret
      exact ⟨rfl, rfl⟩
  · have d1 : decide ((48 : Int) ≤ c.toNat) = false := decide_eq_false (by omega)
    have hv : v = false := by rw [Hv.out]; unfold Lex.isDigit; rw [decide_eq_false]; omega
    subst hv
    clear h1
    go_enter Try.func38, Try.ntmps38
    go_wp2_with fail
    go_ret
    exact ⟨rfl, rfl⟩

set_option maxRecDepth 100000 in
set_option maxHeartbeats 1600000 in
theorem refWord_any (c : UInt8) (w : World) : Calls Try.prog 29 #[.int .u8 (c.toNat : Int)] w fun e w' => e = .returned (.bool (Lex.isWord c)) ∧ w = w' := by
  obtain ⟨v, Hv⟩ : ∃ v, Hid (v = Lex.isWord c) := ⟨_, Lib.hid rfl⟩
  rw [← Hv.out]
  have HL := Lib.hid (fun w => refLetter_any c w)
  have HD := Lib.hid (fun w => refDigit_any c w)
  cases hl : Lex.isLetter c with
  | true =>
    have hv : v = true := by rw [Hv.out]; unfold Lex.isWord; rw [hl]; rfl
    subst hv
    rw [hl] at HL
    clear hl
    go_enter Try.func29, Try.ntmps29
    go_wp2_with (first | (go_at_call 30; refine (HL.out _).mono ?_; rintro e w2 ⟨rfl, rfl⟩) | (go_at_call 38; refine (HD.out _).mono ?_; rintro e w2 ⟨rfl, rfl⟩))
    go_ret
    exact ⟨rfl, rfl⟩
  | false =>
    rw [hl] at HL
    cases hdg : Lex.isDigit c with
    | true =>
      have hv : v = true := by rw [Hv.out]; unfold Lex.isWord; rw [hl, hdg]; rfl
      subst hv
      rw [hdg] at HD
      clear hl hdg
      go_enter Try.func29, Try.ntmps29
      go_wp2_with (first | (go_at_call 30; refine (HL.out _).mono ?_; rintro e w2 ⟨rfl, rfl⟩) | (go_at_call 38; refine (HD.out _).mono ?_; rintro e w2 ⟨rfl, rfl⟩))
      go_ret
      exact ⟨rfl, rfl⟩
    | false =>
      rw [hdg] at HD
      by_cases h95 : c.toNat = 95
      · have e95 : ((c.toNat : Int) == 95) = true := by rw [h95]; rfl
        have hv : v = true := by rw [Hv.out]; unfold Lex.isWord; rw [decide_eq_true h95, Bool.or_true]
        subst hv
        clear hl hdg h95
        go_enter Try.func29, Try.ntmps29
        go_wp2_with (first | (go_at_call 30; refine (HL.out _).mono ?_; rintro e w2 ⟨rfl, rfl⟩) | (go_at_call 38; refine (HD.out _).mono ?_; rintro e w2 ⟨rfl, rfl⟩))
        go_ret
        exact ⟨rfl, rfl⟩
      · have e95 : ((c.toNat : Int) == 95) = false := by
          have : ((c.toNat : Int) == 95) = decide ((c.toNat : Int) = 95) := rfl
          rw [this, decide_eq_false]; omega
        have hv : v = false := by rw [Hv.out]; unfold Lex.isWord; rw [hl, hdg, decide_eq_false h95]; rfl
        subst hv
        clear hl hdg h95
        go_enter Try.func29, Try.ntmps29
        go_wp2_with (first | (go_at_call 30; refine (HL.out _).mono ?_; rintro e w2 ⟨rfl, rfl⟩) | (go_at_call 38; refine (HD.out _).mono ?_; rintro e w2 ⟨rfl, rfl⟩))
        go_ret
        exact ⟨rfl, rfl⟩

end Go.Proofs.Ytocbebkcpmodnaa
