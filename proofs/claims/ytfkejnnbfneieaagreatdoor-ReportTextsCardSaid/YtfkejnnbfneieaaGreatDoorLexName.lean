/- Name. -/
import Derived.Test.YtfkejnnbfneieaaGreatDoorLexMath
import Derived.Test.YtfkejnnbfneieaaGreatDoorTwo
import Derived.Test.YtfkejnnbfneieaaGreatDoorOnly
import Derived.Lib.Strings
namespace Go.Proofs.YtfkejnnbfneieaaGreatDoor
open Go.RowKit

set_option maxRecDepth 100000 in
set_option maxHeartbeats 1600000 in
theorem letter_any (c : UInt8) (w : World) : Calls Tryz.prog 73 #[.int .u8 (c.toNat : Int)] w fun e w' => e = .returned (.bool (Lex.isLetter c)) ∧ w = w' := by
  obtain ⟨v, Hv⟩ : ∃ v, Hid (v = Lex.isLetter c) := ⟨_, Lib.hid rfl⟩
  rw [← Hv.out]
  by_cases h1 : 97 ≤ c.toNat
  · have d1 : decide ((97 : Int) ≤ c.toNat) = true := decide_eq_true (by omega)
    by_cases h2 : c.toNat ≤ 122
    · have d2 : decide ((c.toNat : Int) ≤ 122) = true := decide_eq_true (by omega)
      have hv : v = true := by rw [Hv.out]; unfold Lex.isLetter; rw [decide_eq_true]; omega
      subst hv
      clear h1 h2
      go_enter Tryz.func73, Tryz.ntmps73
      go_wp2_with fail
      go_ret
      exact ⟨rfl, rfl⟩
    · have d2 : decide ((c.toNat : Int) ≤ 122) = false := decide_eq_false (by omega)
      have d3 : decide ((65 : Int) ≤ c.toNat) = true := decide_eq_true (by omega)
      have d4 : decide ((c.toNat : Int) ≤ 90) = false := decide_eq_false (by omega)
      have hv : v = false := by rw [Hv.out]; unfold Lex.isLetter; rw [decide_eq_false]; omega
      subst hv
      clear h1 h2
      go_enter Tryz.func73, Tryz.ntmps73
      go_wp2_with fail
      go_ret
      exact ⟨rfl, rfl⟩
  · have d1 : decide ((97 : Int) ≤ c.toNat) = false := decide_eq_false (by omega)
    by_cases h3 : 65 ≤ c.toNat
    · have d3 : decide ((65 : Int) ≤ c.toNat) = true := decide_eq_true (by omega)
      by_cases h4 : c.toNat ≤ 90
      · have d4 : decide ((c.toNat : Int) ≤ 90) = true := decide_eq_true (by omega)
        have hv : v = true := by rw [Hv.out]; unfold Lex.isLetter; rw [decide_eq_true]; omega
        subst hv
        clear h1 h3 h4
        go_enter Tryz.func73, Tryz.ntmps73
        go_wp2_with fail
        go_ret
        exact ⟨rfl, rfl⟩
      · have d4 : decide ((c.toNat : Int) ≤ 90) = false := decide_eq_false (by omega)
        have hv : v = false := by rw [Hv.out]; unfold Lex.isLetter; rw [decide_eq_false]; omega
        subst hv
        clear h1 h3 h4
        go_enter Tryz.func73, Tryz.ntmps73
        go_wp2_with fail
        go_ret
        exact ⟨rfl, rfl⟩
    · have d3 : decide ((65 : Int) ≤ c.toNat) = false := decide_eq_false (by omega)
      have hv : v = false := by rw [Hv.out]; unfold Lex.isLetter; rw [decide_eq_false]; omega
      subst hv
      clear h1 h3
      go_enter Tryz.func73, Tryz.ntmps73
      go_wp2_with fail
      go_ret
      exact ⟨rfl, rfl⟩

theorem Lex.name_head {S : ByteArray} (h : 0 < S.size) : Lex.nameB S.data.toList = (decide (S.size ≤ 24) && S.data.toList.all Lex.isWord && Lex.isLetter S[0]) := by
  have h3 : ∀ (l : List UInt8) (h : 0 < l.length), Lex.nameB l = (decide (l.length ≤ 24) && l.all Lex.isWord && Lex.isLetter l[0]) := fun l h => by
    cases l with
    | nil => exact absurd h (by simp)
    | cons c l => rfl
  exact h3 S.data.toList h

theorem Lex.word_split (c : UInt8) : Lex.isWord c = (Lex.isLetter c || (decide (48 ≤ c.toNat) && decide (c.toNat ≤ 57)) || decide (c.toNat = 95)) := by
  unfold Lex.isWord Lex.isDigit
  rw [Bool.decide_and]
theorem Lex.all_take {S : ByteArray} {k : Nat} (h : k < S.size) : (S.data.toList.take (k + 1)).all Lex.isWord = ((S.data.toList.take k).all Lex.isWord && Lex.isWord S[k]) := by
  rw [List.take_add_one, List.getElem?_eq_getElem (show k < S.data.toList.length from h), List.all_append]
  simp
  rfl
theorem Lex.not_all {S : ByteArray} {k : Nat} (h : k < S.size) (hw : Lex.isWord S[k] = false) : S.data.toList.all Lex.isWord = false := by
  rw [Bool.eq_false_iff]
  intro hh
  rw [List.all_eq_true] at hh
  have := hh S[k] (List.getElem_mem (show k < S.data.toList.length from h))
  rw [hw] at this; cases this

set_option maxRecDepth 100000 in
set_option maxHeartbeats 1600000 in
theorem name_wide (S : ByteArray) (hS : S.size ≤ 9223372036854775807) (w : World) : Calls Tryz.prog 52 #[.string S] w fun e w' => e = .returned (.bool (Lex.nameB S.data.toList)) ∧ w = w' := by
  obtain ⟨v, Hv⟩ : ∃ v, Hid (v = Lex.nameB S.data.toList) := ⟨_, Lib.hid rfl⟩
  rw [← Hv.out]
  by_cases h0 : S.size = 0
  · have hem : S.toList.isEmpty = true := by rw [Lib.toList_data, List.eq_nil_of_length_eq_zero (show S.data.toList.length = 0 from h0)]; rfl
    have hv : v = false := by
      rw [Hv.out]
      have : S.data.toList = [] := List.eq_nil_of_length_eq_zero h0
      rw [this]; rfl
    subst hv
    go_enter Tryz.func52, Tryz.ntmps52
    go_wp2_with fail
    go_ret
    exact ⟨rfl, rfl⟩
  · have hem : S.toList.isEmpty = false := by
      rw [Lib.toList_data]
      cases hx : S.data.toList with
      | nil => exact absurd (show S.data.toList.length = 0 by rw [hx]; rfl) h0
      | cons a l => rfl
    have HH := Lib.hid (Lex.name_head (S := S) (by omega))
    by_cases h24 : 24 < S.size
    · have d1 : decide ((24 : Int) < S.size) = true := decide_eq_true (by omega)
      have hv : v = false := by rw [Hv.out, HH.out, decide_eq_false (by omega)]; rfl
      subst hv
      go_enter Tryz.func52, Tryz.ntmps52
      go_wp2_with fail
      go_ret
      exact ⟨rfl, rfl⟩
    · have d1 : decide ((24 : Int) < S.size) = false := decide_eq_false (by omega)
      have hb0 : (0 : Int) < S.size := by omega
      obtain ⟨c, Hc⟩ : ∃ c, Hid (c = S[0]'(by omega)) := ⟨_, Lib.hid rfl⟩
      have hTc : S[0]'(by omega) = c := Hc.out.symm
      have HL := Lib.hid (letter_any c w)
      have Hd := Lib.hid (decide_eq_true (show S.size ≤ 24 by omega))
      go_enter Tryz.func52, Tryz.ntmps52
      go_wp2_with fail
      refine HL.out.mono ?_
      rintro e w' ⟨rfl, rfl⟩
      cases hlet : Lex.isLetter c with
      | false =>
        have hv : v = false := by rw [Hv.out, HH.out, ← Hc.out, hlet, Bool.and_false]
        subst hv
        go_wp2_with fail
        go_ret
        exact ⟨rfl, rfl⟩
      | true =>
        have hall : Hid (v = S.data.toList.all Lex.isWord) := Lib.hid (by rw [Hv.out, HH.out, ← Hc.out, hlet, Hd.out, Bool.and_true, Bool.true_and])
        clear hlet HH Hc hTc HL
        go_wp2_with fail
        go_loopw [20] (fun i wr => ∃ k : Nat, k ≤ S.size ∧ wr = w ∧ i = .int .i64 k ∧ Hid ((S.data.toList.take k).all Lex.isWord = true)) (fun i _ => S.size - (intOf i).toNat)
        case atStart => exact ⟨0, Nat.zero_le _, rfl, by go_num, Lib.hid rfl⟩
        case round =>
          obtain ⟨k, hk, hw, rfl, HR⟩ := hrel
          replace hw := hw.symm
          subst hw
          by_cases hkS : k < S.size
          · have hd : decide ((k : Int) < (S.size : Int)) = true := decide_eq_true (by omega)
            have hb0 : (0 : Int) ≤ k := by omega
            have hb1 : (k : Int) < (S.size : Int) := by omega
            obtain ⟨x, Hx⟩ : ∃ c, Hid (c = S[k]) := ⟨_, Lib.hid rfl⟩
            have hTx : S[k] = x := Hx.out.symm
            have HL := Lib.hid (letter_any x w)
            have HWS := Lib.hid (Lex.word_split x)
            have HA := Lib.hid (Lex.all_take hkS)
            have HNA := Lib.hid (Lex.not_all hkS)
            rw [hTx] at HA HNA
            have hgo : Lex.isWord x = true → ∃ k' : Nat, k' = k + 1 ∧ Hid ((S.data.toList.take k').all Lex.isWord = true) := fun hh => ⟨k + 1, rfl, Lib.hid (by rw [HA.out, HR.out, hh]; rfl)⟩
            have HGo := Lib.hid hgo
            clear hgo
            go_wp2_with fail
            refine HL.out.mono ?_
            rintro e w' ⟨rfl, rfl⟩
            cases hlet : Lex.isLetter x with
            | true =>
              obtain ⟨k', rfl, hk'⟩ := HGo.out (by rw [HWS.out, hlet]; rfl)
              clear hlet HGo
              go_wp2_with fail
              go_round
              case rel => exact ⟨k + 1, by omega, trivial, by go_num, hk'⟩
              case measure => simp [intOf]; omega
            | false =>
              by_cases h48 : 48 ≤ x.toNat
              · have d1 : decide ((x.toNat : Int) < 48) = false := decide_eq_false (by omega)
                by_cases h57 : x.toNat ≤ 57
                · have d2 : decide ((57 : Int) < x.toNat) = false := decide_eq_false (by omega)
                  obtain ⟨k', rfl, hk'⟩ := HGo.out (by rw [HWS.out, hlet, decide_eq_true h48, decide_eq_true h57]; rfl)
                  clear hlet HGo h48 h57
                  go_wp2_with fail
                  go_round
                  case rel => exact ⟨k + 1, by omega, trivial, by go_num, hk'⟩
                  case measure => simp [intOf]; omega
                · have d2 : decide ((57 : Int) < x.toNat) = true := decide_eq_true (by omega)
                  by_cases h95 : x.toNat = 95
                  · have d3 : ((x.toNat : Int) == 95) = true := by rw [h95]; rfl
                    obtain ⟨k', rfl, hk'⟩ := HGo.out (by rw [HWS.out, h95]; simp)
                    clear hlet HGo h48 h57 h95
                    go_wp2_with fail
                    go_round
                    case rel => exact ⟨k + 1, by omega, trivial, by go_num, hk'⟩
                    case measure => simp [intOf]; omega
                  · have d3 : ((x.toNat : Int) == 95) = false := by
                      have : ((x.toNat : Int) == 95) = decide ((x.toNat : Int) = 95) := rfl
                      rw [this, decide_eq_false]; omega
                    have hv : v = false := by rw [hall.out]; exact HNA.out (by rw [HWS.out, hlet, decide_eq_false h57, decide_eq_false h95]; simp)
                    subst hv
                    clear hlet HGo h48 h57 h95
                    go_wp2_with fail
                    go_ret
                    exact ⟨rfl, rfl⟩
              · have d1 : decide ((x.toNat : Int) < 48) = true := decide_eq_true (by omega)
                have h95 : ¬ x.toNat = 95 := by omega
                have d3 : ((x.toNat : Int) == 95) = false := by
                  have : ((x.toNat : Int) == 95) = decide ((x.toNat : Int) = 95) := rfl
                  rw [this, decide_eq_false]; omega
                have hv : v = false := by rw [hall.out]; exact HNA.out (by rw [HWS.out, hlet, decide_eq_false h48, decide_eq_false h95]; rfl)
                subst hv
                clear hlet HGo h48 h95
                go_wp2_with fail
                go_ret
                exact ⟨rfl, rfl⟩
          · have hkk : k = S.size := by omega
            have hd : decide ((k : Int) < (S.size : Int)) = false := decide_eq_false (by omega)
            have hv : v = true := by
              rw [hall.out]
              have := HR.out
              rwa [List.take_of_length_le (show S.data.toList.length ≤ k by show S.size ≤ k; omega)] at this
            subst hv
            go_wp2_with fail
            go_ret
            exact ⟨rfl, rfl⟩
theorem name_any (S : ByteArray) (hS : S.size ≤ 140737488351232) (w : World) : Calls Tryz.prog 52 #[.string S] w fun e w' => e = .returned (.bool (Lex.nameB S.data.toList)) ∧ w = w' :=
  name_wide S (by omega) w

end Go.Proofs.YtfkejnnbfneieaaGreatDoor
