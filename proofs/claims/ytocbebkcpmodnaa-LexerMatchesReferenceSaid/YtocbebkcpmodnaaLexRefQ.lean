/- The reference's Quote, Written. -/
import Derived.Test.YtocbebkcpmodnaaLexQuotes
namespace Go.Proofs.Ytocbebkcpmodnaa
open Go.RowKit

namespace Lex
/-- What has been written of a text, and what is still to be copied. -/
def Half (S : ByteArray) (k f : Nat) (out : ByteArray) : Prop := f ≤ k ∧ out.data.toList ++ (S.data.toList.drop f).take (k - f) = 34 :: enc (S.data.toList.take k)
theorem Half.size {S : ByteArray} {k f : Nat} {out : ByteArray} (h : Half S k f out) (hk : k ≤ S.size) : out.size + (k - f) ≤ 2 * k + 1 := by
  have h1 := congrArg List.length h.2
  have h2 := (enc_len (S.data.toList.take k)).2
  have h3 : out.data.toList.length = out.size := rfl
  have h4 : S.data.toList.length = S.size := rfl
  rw [List.length_append, List.length_cons, List.length_take, List.length_drop, h3, h4] at h1
  rw [List.length_take, h4] at h2
  have := h.1
  omega
theorem take_one {S : ByteArray} {k f : Nat} (hf : f ≤ k) (hk : k < S.size) : (S.data.toList.drop f).take (k + 1 - f) = (S.data.toList.drop f).take (k - f) ++ [S[k]] := by
  rw [show k + 1 - f = (k - f) + 1 by omega, List.take_add_one, List.getElem?_drop, show f + (k - f) = k by omega, List.getElem?_eq_getElem (show k < S.data.toList.length from hk)]
  rfl
theorem Half.plain {S : ByteArray} {k f : Nat} {out : ByteArray} (h : Half S k f out) (hk : k < S.size) (hr : repB S[k].toNat = []) : Half S (k + 1) f out := by
  refine ⟨by have := h.1; omega, ?_⟩
  rw [take_one h.1 hk, ← List.append_assoc, h.2, enc_take hk, encC_rep, if_pos hr]
  rfl
theorem app_list (a b : ByteArray) : (a ++ b).data.toList = a.data.toList ++ b.data.toList := by rw [ByteArray.data_append]; simp
theorem Half.nl {S : ByteArray} {k f : Nat} {out : ByteArray} (h : Half S k f out) (hk : k < S.size) (hc : S[k].toNat = 10) : Half S (k + 1) (k + 1) (out ++ S.extract f k ++ ⟨#[92, 110]⟩) := by
  refine ⟨Nat.le_refl _, ?_⟩
  have e : encC S[k] = [92, 110] := by rw [encC_rep, hc]; rfl
  rw [app_list, app_list, extract_list, Nat.sub_self, List.take_zero, List.append_nil, enc_take hk, e, ← List.cons_append, ← h.2]
theorem Half.esc {S : ByteArray} {k f : Nat} {out : ByteArray} (h : Half S k f out) (hk : k < S.size) (hc : S[k].toNat = 34 ∨ S[k].toNat = 92) : Half S (k + 1) k (out ++ S.extract f k ++ ⟨#[92]⟩) := by
  refine ⟨by omega, ?_⟩
  have e : encC S[k] = [92, S[k]] := by
    rcases hc with hc | hc
    · rw [encC_rep, hc]
      have : S[k] = 34 := UInt8.toNat_inj.1 hc
      rw [this]; rfl
    · rw [encC_rep, hc]
      have : S[k] = 92 := UInt8.toNat_inj.1 hc
      rw [this]; rfl
  have e1 : (S.data.toList.drop k).take (k + 1 - k) = [S[k]] := by rw [take_one (Nat.le_refl k) hk, Nat.sub_self]; rfl
  rw [app_list, app_list, extract_list, e1, enc_take hk, e, ← List.cons_append, ← h.2]
  simp
theorem Half.last {S : ByteArray} {f : Nat} {out : ByteArray} (h : Half S S.size f out) : out ++ S.extract f S.size ++ ⟨#[34]⟩ = ⟨(quote S.data.toList).toArray⟩ := by
  have h1 : (out ++ S.extract f S.size ++ ⟨#[34]⟩).data.toList = quote S.data.toList := by
    rw [app_list, app_list, extract_list]
    have := h.2
    rw [List.take_of_length_le (show S.data.toList.length ≤ S.size from Nat.le_refl _)] at this
    show out.data.toList ++ ((S.data.toList.drop f).take (S.size - f)) ++ [34] = _
    rw [this]; rfl
  rw [← h1, bytes_back]
end Lex

set_option maxRecDepth 100000 in
set_option maxHeartbeats 4000000 in
theorem refQuote_any (S : ByteArray) (hS : S.size ≤ 100000000) (W : World) :
    Calls Try.prog 18 #[.string S] W fun e w' => e = .returned (.string ⟨(Lex.quote S.data.toList).toArray⟩) ∧ W = w' := by
  go_enter Try.func18, Try.ntmps18
  go_wp2_with fail
  go_loopw [5, 4, 3] (fun i b o wr => ∃ (k f : Nat) (out : ByteArray), k ≤ S.size ∧ wr = W ∧ i = .int .i64 k ∧ b = .int .i64 f ∧ o = .string out ∧ Hid (Lex.Half S k f out)) (fun i _ _ _ => S.size - (intOf i).toNat)
  case atStart => exact ⟨0, 0, ⟨#[34]⟩, Nat.zero_le _, rfl, by go_num, by go_num, rfl, Lib.hid ⟨Nat.le_refl _, rfl⟩⟩
  case round =>
    obtain ⟨k, f, out, hk, hw, rfl, rfl, rfl, HR⟩ := hrel
    replace hw := hw.symm
    subst hw
    have hfk : f ≤ k := HR.out.1
    have hsz := HR.out.size hk
    have hf0 : (0 : Int) ≤ f := by omega
    have hfi : (f : Int) ≤ k := by omega
    have hki : (k : Int) ≤ S.size := by omega
    have hb0 : (0 : Int) ≤ k := by omega
    have hmin : min k S.size = k := by omega
    have hq0 : ¬ (9223372036854775807 < out.size + (k - f)) := by omega
    have hq1 : ¬ (9223372036854775807 < out.size + (k - f) + 1) := by omega
    have hq2 : ¬ (9223372036854775807 < out.size + (k - f) + 2) := by omega
    by_cases hkS : k < S.size
    · have hd : decide ((k : Int) < (S.size : Int)) = true := decide_eq_true (by omega)
      have hb1 : (k : Int) < (S.size : Int) := by omega
      obtain ⟨c, Hc⟩ : ∃ c, Hid (c = S[k]) := ⟨_, Lib.hid rfl⟩
      have hTc : S[k] = c := Hc.out.symm
      have e34 : ((c.toNat : Int) == 34) = decide (c.toNat = 34) := Lex.byte_eq c 34
      have e10 : ((c.toNat : Int) == 10) = decide (c.toNat = 10) := Lex.byte_eq c 10
      have e92 : ((c.toNat : Int) == 92) = decide (c.toNat = 92) := Lex.byte_eq c 92
      by_cases h10 : c.toNat = 10
      · have HN := Lib.hid (HR.out.nl hkS (by rw [hTc]; exact h10))
        rw [decide_eq_true h10] at e10
        clear e34 e92 h10 hsz
        go_wp2_with fail
        go_round
        case rel => exact ⟨k + 1, k + 1, _, by omega, trivial, by go_num, by go_num, rfl, HN⟩
        case measure => simp [intOf]; omega
      · rw [decide_eq_false h10] at e10
        by_cases h34 : c.toNat = 34
        · have HN := Lib.hid (HR.out.esc hkS (by rw [hTc]; exact Or.inl h34))
          rw [decide_eq_true h34] at e34
          have g34 : (c.toNat : Int) = 34 := by omega
          clear e92 h10 h34 hsz
          go_wp2_with fail
          go_round
          case rel => exact ⟨k + 1, k, _, by omega, trivial, by go_num, rfl, rfl, HN⟩
          case measure => simp [intOf]; omega
        · rw [decide_eq_false h34] at e34
          by_cases h92 : c.toNat = 92
          · have HN := Lib.hid (HR.out.esc hkS (by rw [hTc]; exact Or.inr h92))
            rw [decide_eq_true h92] at e92
            have g34 : ¬ (c.toNat : Int) = 34 := by omega
            clear h10 h34 h92 hsz
            go_wp2_with fail
            go_round
            case rel => exact ⟨k + 1, k, _, by omega, trivial, by go_num, rfl, rfl, HN⟩
            case measure => simp [intOf]; omega
          · have HN := Lib.hid (HR.out.plain hkS (by rw [hTc]; unfold Lex.repB; rw [if_neg h92, if_neg h34, if_neg h10]))
            rw [decide_eq_false h92] at e92
            have g34 : ¬ (c.toNat : Int) = 34 := by omega
            clear h10 h34 h92 hsz
            go_wp2_with fail
            go_round
            case rel => exact ⟨k + 1, f, out, by omega, trivial, by go_num, rfl, rfl, HN⟩
            case measure => simp [intOf]; omega
    · have hkk : k = S.size := by omega
      subst hkk
      have hd : decide ((S.size : Int) < (S.size : Int)) = false := decide_eq_false (by omega)
      have HL := Lib.hid HR.out.last
      have hmin2 : min S.size S.size = S.size := by omega
      clear hsz
      go_wp2_with fail
      go_ret
      exact ⟨by rw [← HL.out]; rfl, rfl⟩

end Go.Proofs.Ytocbebkcpmodnaa
