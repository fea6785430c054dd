/- The reference's has, gap, Gaps. -/
import Derived.Test.YtocbebkcpmodnaaLexQuotes
namespace Go.Proofs.Ytocbebkcpmodnaa
open Go.RowKit

set_option maxRecDepth 100000 in
set_option maxHeartbeats 4000000 in
theorem has_any (S : ByteArray) (hS : S.size ≤ 100000) (c : UInt8) (W : World) :
    Calls Try.prog 37 #[.string S, .int .u8 (c.toNat : Int)] W fun e w' => e = .returned (.bool (decide (c ∈ S.data.toList))) ∧ W = w' := by
  obtain ⟨v, Hv⟩ : ∃ v, Hid (v = decide (c ∈ S.data.toList)) := ⟨_, Lib.hid rfl⟩
  rw [← Hv.out]
  go_enter Try.func37, Try.ntmps37
  go_wp2_with fail
  go_loopw [5] (fun i wr => ∃ k : Nat, k ≤ S.size ∧ wr = W ∧ i = .int .i64 k ∧ Hid (∀ x ∈ S.data.toList.take k, x ≠ c)) (fun i _ => S.size - (intOf i).toNat)
  case atStart => exact ⟨0, Nat.zero_le _, rfl, by go_num, Lib.hid (by simp)⟩
  case round =>
    obtain ⟨k, hk, hw, rfl, HR⟩ := hrel
    replace hw := hw.symm
    subst hw
    by_cases hkS : k < S.size
    · have hd : decide ((k : Int) < (S.size : Int)) = true := decide_eq_true (by omega)
      have hb0 : (0 : Int) ≤ k := by omega
      have hb1 : (k : Int) < (S.size : Int) := by omega
      obtain ⟨x, Hx⟩ : ∃ c, Hid (c = S[k]) := ⟨_, Lib.hid rfl⟩
      have hTx : S[k] = x := Hx.out.symm
      by_cases he : x = c
      · have hv : v = true := by
          rw [Hv.out, decide_eq_true]
          rw [← he, ← hTx]
          exact List.getElem_mem (show k < S.data.toList.length from hkS)
        subst hv
        subst he
        go_wp2_with fail
        go_ret
        exact ⟨rfl, rfl⟩
      · have hne : ((x.toNat : Int) == (c.toNat : Int)) = false := by
          have : ((x.toNat : Int) == (c.toNat : Int)) = decide ((x.toNat : Int) = c.toNat) := rfl
          rw [this, decide_eq_false]
          intro h
          exact he (UInt8.toNat_inj.1 (by omega))
        have HN : Hid (∀ y ∈ S.data.toList.take (k + 1), y ≠ c) := Lib.hid fun y hy => by
          rw [List.take_add_one, List.getElem?_eq_getElem (show k < S.data.toList.length from hkS)] at hy
          rcases List.mem_append.1 hy with h | h
          · exact HR.out y h
          · have h1 : y = S.data[k] := by simpa using h
            have h2 : y = S[k] := h1
            rw [h2, hTx]; exact he
        clear he
        go_wp2_with fail
        go_round
        case rel => exact ⟨k + 1, by omega, trivial, by go_num, HN⟩
        case measure => simp [intOf]; omega
    · have hd : decide ((k : Int) < (S.size : Int)) = false := decide_eq_false (by omega)
      have hv : v = false := by
        rw [Hv.out, decide_eq_false]
        intro h
        have h1 := HR.out c (by rw [List.take_of_length_le (show S.data.toList.length ≤ k by show S.size ≤ k; omega)]; exact h)
        exact h1 rfl
      subst hv
      go_wp2_with fail
      go_ret
      exact ⟨rfl, rfl⟩

theorem blank_has (c : UInt8) : decide (c ∈ (⟨#[32, 9, 10]⟩ : ByteArray).data.toList) = Lex.isBlank c := by
  unfold Lex.isBlank
  rw [decide_eq_decide]
  have e : (⟨#[32, 9, 10]⟩ : ByteArray).data.toList = [32, 9, 10] := rfl
  rw [e]
  simp only [List.mem_cons, List.not_mem_nil, or_false]
  have key : ∀ n : UInt8, c = n ↔ c.toNat = n.toNat := fun n => UInt8.toNat_inj.symm
  rw [key, key, key]
  exact Iff.rfl

namespace Lex
theorem drop_at {T : ByteArray} {q : Nat} (h : q < T.size) : T.data.toList.drop q = T[q] :: T.data.toList.drop (q + 1) := drop_cons h
end Lex

set_option maxRecDepth 100000 in
set_option maxHeartbeats 4000000 in
theorem gap_any (T : ByteArray) (hT : T.size ≤ 100000) (p : Nat) (hp : p ≤ T.size) (W : World) :
    Calls Try.prog 26 #[.string T, .int .i64 (p : Int)] W fun e w' => ∃ n : Nat, e = .returned (.int .i64 (n : Int)) ∧ p ≤ n ∧ n ≤ T.size ∧ Lex.skip false (T.data.toList.drop p) = T.data.toList.drop n ∧ W = w' := by
  have HH : Hid (∀ (c : UInt8) (w : World), Calls Try.prog 37 #[.string ⟨#[32, 9, 10]⟩, .int .u8 (c.toNat : Int)] w fun e w' => e = .returned (.bool (Lex.isBlank c)) ∧ w = w') :=
    Lib.hid (fun c w => (has_any ⟨#[32, 9, 10]⟩ (by decide) c w).mono fun e w' h => ⟨by rw [← blank_has]; exact h.1, h.2⟩)
  go_enter Try.func26, Try.ntmps26
  go_wp2_with fail
  go_loopw [1] (fun i wr => ∃ q : Nat, p ≤ q ∧ q ≤ T.size ∧ wr = W ∧ i = .int .i64 q ∧ Hid (Lex.skip false (T.data.toList.drop p) = Lex.skip false (T.data.toList.drop q))) (fun i _ => T.size - (intOf i).toNat)
  case atStart => exact ⟨p, Nat.le_refl _, hp, rfl, by go_num, Lib.hid rfl⟩
  case round =>
    obtain ⟨q, hpq, hq, hw, rfl, HR⟩ := hrel
    replace hw := hw.symm
    subst hw
    by_cases hqT : q < T.size
    · have hd : decide ((q : Int) < (T.size : Int)) = true := decide_eq_true (by omega)
      have hb0 : (0 : Int) ≤ q := by omega
      have hb1 : (q : Int) < (T.size : Int) := by omega
      obtain ⟨x, Hx⟩ : ∃ c, Hid (c = T[q]) := ⟨_, Lib.hid rfl⟩
      have hTx : T[q] = x := Hx.out.symm
      have HS := Lib.hid (Lex.drop_at hqT)
      rw [hTx] at HS
      go_wp2_with fail
      refine (HH.out _ _).mono ?_
      rintro e w' ⟨rfl, hw'⟩
      subst hw'
      cases hbl : Lex.isBlank x with
      | true =>
        have HN : Hid (Lex.skip false (T.data.toList.drop p) = Lex.skip false (T.data.toList.drop (q + 1))) := Lib.hid (by rw [HR.out, HS.out, Lex.skip_f, if_pos hbl])
        clear hbl
        go_wp2_with fail
        go_round
        case rel => exact ⟨q + 1, by omega, by omega, trivial, by go_num, HN⟩
        case measure => simp [intOf]; omega
      | false =>
        by_cases h35 : x.toNat = 35
        · have e35 : ((x.toNat : Int) == 35) = true := by rw [h35]; rfl
          have HN : Hid (Lex.skip false (T.data.toList.drop p) = Lex.skip true (T.data.toList.drop q)) := Lib.hid (by
            rw [HR.out, HS.out, Lex.skip_f, if_neg (by rw [hbl]; simp), if_pos h35, Lex.skip_t, if_neg (by omega)])
          clear hbl h35
          go_wp2_with fail
          go_loopw [1] (fun i wr => ∃ m : Nat, q ≤ m ∧ m ≤ T.size ∧ wr = W ∧ i = .int .i64 m ∧ (m = q ∨ q < m) ∧ Hid (Lex.skip false (T.data.toList.drop p) = Lex.skip true (T.data.toList.drop m))) (fun i _ => T.size - (intOf i).toNat)
          case atStart => exact ⟨q, Nat.le_refl _, hq, rfl, by go_num, Or.inl rfl, HN⟩
          case round =>
            obtain ⟨m, hqm, hm, hw, rfl, hmq, HM⟩ := hrel
            replace hw := hw.symm
            subst hw
            clear HN
            by_cases hmT : m < T.size
            · have hdm : decide ((m : Int) < (T.size : Int)) = true := decide_eq_true (by omega)
              have hm0 : (0 : Int) ≤ m := by omega
              have hm1 : (m : Int) < (T.size : Int) := by omega
              obtain ⟨y, Hy⟩ : ∃ c, Hid (c = T[m]) := ⟨_, Lib.hid rfl⟩
              have hTy : T[m] = y := Hy.out.symm
              have HSy := Lib.hid (Lex.drop_at hmT)
              rw [hTy] at HSy
              by_cases h10 : y.toNat = 10
              · have e10 : ((y.toNat : Int) == 10) = true := by rw [h10]; rfl
                have HN : Hid (Lex.skip false (T.data.toList.drop p) = Lex.skip false (T.data.toList.drop m)) := Lib.hid (by
                  rw [HM.out, HSy.out, Lex.skip_t, if_pos h10, Lex.skip_f, if_pos (by unfold Lex.isBlank; rw [decide_eq_true]; omega)])
                have hlt : q < m := by
                  rcases hmq with h | h
                  · exfalso
                    subst h
                    have : x = y := by rw [← hTx, ← hTy]
                    rw [this] at e35
                    rw [h10] at e35
                    cases e35
                  · exact h
                clear h10
                go_wp2_with fail
                go_round
                case rel => exact ⟨m, by omega, by omega, trivial, rfl, HN⟩
                case measure => simp [intOf]; omega
              · have e10 : ((y.toNat : Int) == 10) = false := by
                  have : ((y.toNat : Int) == 10) = decide ((y.toNat : Int) = 10) := rfl
                  rw [this, decide_eq_false]; omega
                have HN : Hid (Lex.skip false (T.data.toList.drop p) = Lex.skip true (T.data.toList.drop (m + 1))) := Lib.hid (by
                  rw [HM.out, HSy.out, Lex.skip_t, if_neg h10])
                clear h10
                go_wp2_with fail
                go_round
                case rel => exact ⟨m + 1, by omega, by omega, trivial, by go_num, Or.inr (by omega), HN⟩
                case measure => simp [intOf]; omega
            · have hdm : decide ((m : Int) < (T.size : Int)) = false := decide_eq_false (by omega)
              have HN : Hid (Lex.skip false (T.data.toList.drop p) = Lex.skip false (T.data.toList.drop m)) := Lib.hid (by
                rw [HM.out, List.drop_eq_nil_of_le (show T.data.toList.length ≤ m by show T.size ≤ m; omega)]; rfl)
              go_wp2_with fail
              go_round
              case rel => exact ⟨m, by omega, by omega, trivial, rfl, HN⟩
              case measure => simp [intOf]; omega
        · have e35 : ((x.toNat : Int) == 35) = false := by
            have : ((x.toNat : Int) == 35) = decide ((x.toNat : Int) = 35) := rfl
            rw [this, decide_eq_false]; omega
          have HN : Hid (Lex.skip false (T.data.toList.drop p) = T.data.toList.drop q) := Lib.hid (by
            rw [HR.out, HS.out, Lex.skip_f, if_neg (by rw [hbl]; simp), if_neg h35])
          clear hbl h35
          go_wp2_with fail
          go_ret
          exact ⟨q, rfl, hpq, hq, HN.out, rfl⟩
    · have hd : decide ((q : Int) < (T.size : Int)) = false := decide_eq_false (by omega)
      have HN : Hid (Lex.skip false (T.data.toList.drop p) = T.data.toList.drop q) := Lib.hid (by
        rw [HR.out, List.drop_eq_nil_of_le (show T.data.toList.length ≤ q by show T.size ≤ q; omega)]; rfl)
      go_wp2_with fail
      go_ret
      exact ⟨q, rfl, hpq, hq, HN.out, rfl⟩

set_option maxRecDepth 100000 in
set_option maxHeartbeats 4000000 in
theorem gaps_any (T : ByteArray) (hT : T.size ≤ 100000) (W : World) :
    Calls Try.prog 19 #[.string T] W fun e w' => e = .returned (.bool (decide (Lex.skip false T.data.toList = []))) ∧ W = w' := by
  have HG := Lib.hid (gap_any T hT 0 (Nat.zero_le _) W)
  obtain ⟨v, Hv⟩ : ∃ v, Hid (v = decide (Lex.skip false T.data.toList = [])) := ⟨_, Lib.hid rfl⟩
  rw [← Hv.out]
  go_enter Try.func19, Try.ntmps19
  go_wp2_with fail
  refine HG.out.mono ?_
  rintro e w' ⟨n, rfl, _, hn, hs, hw'⟩
  subst hw'
  rw [List.drop_zero] at hs
  have hv : ((n : Int) == (T.size : Int)) = v := by
    have h1 : ((n : Int) == (T.size : Int)) = decide ((n : Int) = T.size) := rfl
    rw [h1, Hv.out, decide_eq_decide, hs]
    have h2 : T.data.toList.length = T.size := rfl
    constructor
    · intro h; exact List.drop_eq_nil_of_le (by omega)
    · intro h
      have := congrArg List.length h
      rw [List.length_drop, h2, List.length_nil] at this
      omega
  clear hs hn
  go_wp2_with fail
  go_ret
  exact ⟨rfl, rfl⟩

end Go.Proofs.Ytocbebkcpmodnaa
