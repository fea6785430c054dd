/- The reference's str, next. -/
import Derived.Test.YtocbebkcpmodnaaLexRefG
import Derived.Test.YtocbebkcpmodnaaLexRefN
import Derived.Test.YtocbebkcpmodnaaLexRefQ
namespace Go.Proofs.Ytocbebkcpmodnaa
open Go.RowKit

namespace Lex
theorem esc_has (c : UInt8) : decide (c ∈ (⟨#[92, 34, 110]⟩ : ByteArray).data.toList) = decide (c.toNat = 92 ∨ c.toNat = 34 ∨ c.toNat = 110) := by
  rw [decide_eq_decide]
  have e : (⟨#[92, 34, 110]⟩ : ByteArray).data.toList = [92, 34, 110] := rfl
  rw [e]
  simp only [List.mem_cons, List.not_mem_nil, or_false]
  have key : ∀ n : UInt8, c = n ↔ c.toNat = n.toNat := fun n => UInt8.toNat_inj.symm
  rw [key, key, key]
  exact Iff.rfl
theorem sym_has (c : UInt8) : decide (c ∈ (⟨#[59, 44, 46, 58, 40, 41, 123, 125, 91, 93, 61, 60, 62, 47, 43, 45, 42]⟩ : ByteArray).data.toList) = Lex.isSym c := by
  unfold isSym
  rw [decide_eq_decide]
  have e : (⟨#[59, 44, 46, 58, 40, 41, 123, 125, 91, 93, 61, 60, 62, 47, 43, 45, 42]⟩ : ByteArray).data.toList = [59, 44, 46, 58, 40, 41, 123, 125, 91, 93, 61, 60, 62, 47, 43, 45, 42] := rfl
  rw [e]
  simp only [List.mem_cons, List.not_mem_nil, or_false]
  have key : ∀ n : UInt8, c = n ↔ c.toNat = n.toNat := fun n => UInt8.toNat_inj.symm
  simp only [key]
  exact Iff.rfl
theorem str_plain {T : ByteArray} {k : Nat} (h : k < T.size) (h1 : T[k].toNat ≠ 34) (h2 : T[k].toNat ≠ 10) (h3 : T[k].toNat ≠ 92) : strD (T.data.toList.drop k) = (strD (T.data.toList.drop (k + 1))).map fun x => (T[k] :: x.1, x.2) := by
  rw [str_cons h, if_neg h1, if_neg h2, if_neg h3]
theorem str_none {T : ByteArray} {k : Nat} (h : ¬ k < T.size) : strD (T.data.toList.drop k) = none := by
  rw [List.drop_eq_nil_of_le (show T.data.toList.length ≤ k by show T.size ≤ k; omega)]; rfl
theorem str_end {T : ByteArray} {k : Nat} (h : k < T.size) (h1 : T[k].toNat = 34) : strD (T.data.toList.drop k) = some ([], T.data.toList.drop (k + 1)) := by
  rw [str_cons h, if_pos h1]
theorem str_line {T : ByteArray} {k : Nat} (h : k < T.size) (h1 : T[k].toNat = 10) : strD (T.data.toList.drop k) = none := by
  rw [str_cons h, if_neg (by omega), if_pos h1]
theorem str_cut {T : ByteArray} {k : Nat} (h : k < T.size) (h1 : T[k].toNat = 92) (h2 : ¬ k + 1 < T.size) : strD (T.data.toList.drop k) = none := by
  rw [str_cons h, if_neg (by omega), if_neg (by omega), if_pos h1, List.drop_eq_nil_of_le (show T.data.toList.length ≤ k + 1 by show T.size ≤ k + 1; omega)]
theorem str_same {T : ByteArray} {k : Nat} (h : k < T.size) (h1 : T[k].toNat = 92) (h2 : k + 1 < T.size) (h3 : T[k + 1].toNat = 92 ∨ T[k + 1].toNat = 34) : strD (T.data.toList.drop k) = (strD (T.data.toList.drop (k + 2))).map fun x => (T[k + 1] :: x.1, x.2) := by
  rw [str_cons h, if_neg (by omega), if_neg (by omega), if_pos h1, drop_cons h2]
  dsimp only
  rw [if_pos h3]
theorem str_nl {T : ByteArray} {k : Nat} (h : k < T.size) (h1 : T[k].toNat = 92) (h2 : k + 1 < T.size) (h3 : T[k + 1].toNat = 110) : strD (T.data.toList.drop k) = (strD (T.data.toList.drop (k + 2))).map fun x => (10 :: x.1, x.2) := by
  rw [str_cons h, if_neg (by omega), if_neg (by omega), if_pos h1, drop_cons h2]
  dsimp only
  rw [if_neg (by omega), if_pos h3]
theorem str_odd {T : ByteArray} {k : Nat} (h : k < T.size) (h1 : T[k].toNat = 92) (h2 : k + 1 < T.size) (h3 : ¬ (T[k + 1].toNat = 92 ∨ T[k + 1].toNat = 34 ∨ T[k + 1].toNat = 110)) : strD (T.data.toList.drop k) = none := by
  rw [str_cons h, if_neg (by omega), if_neg (by omega), if_pos h1, drop_cons h2]
  dsimp only
  rw [if_neg (by omega), if_neg (by omega)]
theorem snoc_list (o : ByteArray) (c : UInt8) : (o ++ ⟨#[c]⟩).data.toList = o.data.toList ++ [c] := by rw [app_list]
theorem snoc_cut {T : ByteArray} {k : Nat} (o : ByteArray) (h : k < T.size) : (o ++ T.extract k (k + 1)).data.toList = o.data.toList ++ [T[k]] := by
  rw [app_list, extract_one h]
/-- What str returns. -/
def strV (T : ByteArray) (p : Nat) : Value := match strD (T.data.toList.drop p) with
  | none => .tuple #[.string ⟨#[]⟩, .int .i64 0, .bool false]
  | some x => .tuple #[.string ⟨x.1.toArray⟩, .int .i64 ((T.size - x.2.length : Nat) : Int), .bool true]
end Lex

set_option maxRecDepth 100000 in
set_option maxHeartbeats 8000000 in
theorem str_any (T : ByteArray) (hT : T.size ≤ 100000) (p : Nat) (hp : p < T.size) (W : World) :
    Calls Try.prog 39 #[.string T, .int .i64 (p : Int)] W fun e w' => e = .returned (Lex.strV T (p + 1)) ∧ W = w' := by
  have HH : Hid (∀ (c : UInt8) (w : World), Calls Try.prog 37 #[.string ⟨#[92, 34, 110]⟩, .int .u8 (c.toNat : Int)] w fun e w' => e = .returned (.bool (decide (c.toNat = 92 ∨ c.toNat = 34 ∨ c.toNat = 110))) ∧ w = w') :=
    Lib.hid (fun c w => (has_any ⟨#[92, 34, 110]⟩ (by decide) c w).mono fun e w' h => ⟨by rw [← Lex.esc_has]; exact h.1, h.2⟩)
  obtain ⟨v, Hv⟩ : ∃ v, Hid (v = Lex.strV T (p + 1)) := ⟨_, Lib.hid rfl⟩
  rw [← Hv.out]
  have hnone : Lex.strD (T.data.toList.drop (p + 1)) = none → v = .tuple #[.string ⟨#[]⟩, .int .i64 0, .bool false] := fun h => by rw [Hv.out]; unfold Lex.strV; rw [h]
  have hsome : ∀ (o : ByteArray) (q : Nat), q ≤ T.size → Lex.strD (T.data.toList.drop (p + 1)) = some (o.data.toList, T.data.toList.drop q) → v = .tuple #[.string o, .int .i64 (q : Int), .bool true] := fun o q hq h => by
    rw [Hv.out]; unfold Lex.strV; rw [h]
    dsimp only
    rw [bytes_back, List.length_drop, show T.data.toList.length = T.size from rfl, show T.size - (T.size - q) = q by omega]
  have HNone := Lib.hid hnone
  have HSome := Lib.hid hsome
  clear hnone hsome Hv
  go_enter Try.func39, Try.ntmps39
  go_wp2_with fail
  go_loopw [8, 7] (fun i o wr => ∃ (k : Nat) (out : ByteArray), p < k ∧ k ≤ T.size ∧ wr = W ∧ i = .int .i64 k ∧ o = .string out ∧ Hid (Lex.Upto T (p + 1) k out.data.toList ∧ out.size ≤ k)) (fun i _ _ => T.size - (intOf i).toNat)
  case atStart => exact ⟨p + 1, ⟨#[]⟩, by omega, by omega, rfl, by go_num, rfl, Lib.hid ⟨by unfold Lex.Upto; cases Lex.strD (T.data.toList.drop (p + 1)) <;> rfl, Nat.zero_le _⟩⟩
  case round =>
    obtain ⟨k, out, hpk, hk, hw, rfl, rfl, HR⟩ := hrel
    replace hw := hw.symm
    subst hw
    by_cases hkT : k < T.size
    · have hd : decide ((k : Int) < (T.size : Int)) = true := decide_eq_true (by omega)
      have hb0 : (0 : Int) ≤ k := by omega
      have hb1 : (k : Int) < (T.size : Int) := by omega
      have hbo := HR.out.2
      obtain ⟨c, Hc⟩ : ∃ c, Hid (c = T[k]) := ⟨_, Lib.hid rfl⟩
      have hTc : T[k] = c := Hc.out.symm
      have e34 : ((c.toNat : Int) == 34) = decide (c.toNat = 34) := Lex.byte_eq c 34
      have e10 : ((c.toNat : Int) == 10) = decide (c.toNat = 10) := Lex.byte_eq c 10
      have e92 : ((c.toNat : Int) == 92) = decide (c.toNat = 92) := Lex.byte_eq c 92
      by_cases h34 : c.toNat = 34
      · rw [decide_eq_true h34] at e34
        have hv := HSome.out out (k + 1) (by omega) (HR.out.1.some (Lex.str_end hkT (by rw [hTc]; exact h34)))
        subst hv
        clear e10 e92 h34
        go_wp2_with fail
        refine bodyPost_ret (results_tmp3 rfl _ _ _) rfl ?_
        exact ⟨rfl, rfl⟩
      rw [decide_eq_false h34] at e34
      by_cases h10 : c.toNat = 10
      · rw [decide_eq_true h10] at e10
        have hv := HNone.out (HR.out.1.none (Lex.str_line hkT (by rw [hTc]; exact h10)))
        subst hv
        clear e92 h34 h10
        go_wp2_with fail
        refine bodyPost_ret (results_tmp3 rfl _ _ _) rfl ?_
        exact ⟨rfl, rfl⟩
      rw [decide_eq_false h10] at e10
      by_cases h92 : c.toNat = 92
      case neg =>
        rw [decide_eq_false h92] at e92
        have HN := Lib.hid (HR.out.1.more (Lex.str_plain hkT (by rw [hTc]; exact h34) (by rw [hTc]; exact h10) (by rw [hTc]; exact h92)))
        rw [← Lex.snoc_cut out hkT] at HN
        have hx1 : (T.extract k (k + 1)).size = 1 := by rw [Lex.extract_one hkT]; rfl
        have hx2 : (out ++ T.extract k (k + 1)).size ≤ k + 1 := by rw [ByteArray.size_append, hx1]; omega
        obtain ⟨X, HX⟩ : ∃ X, Hid (X = T.extract k (k + 1)) := ⟨_, Lib.hid rfl⟩
        have hX : T.extract k (k + 1) = X := HX.out.symm
        rw [hX] at HN hx1 hx2
        have hxs : ¬ (9223372036854775807 < out.size + X.size) := by omega
        have hbk : (k : Int) + 1 ≤ T.size := by omega
        have hbk2 : (k : Int) ≤ k + 1 := by omega
        clear h34 h10 h92 hx1
        go_wp2_with fail
        go_round
        case rel => exact ⟨k + 1, out ++ X, by omega, by omega, trivial, by go_num, rfl, Lib.hid ⟨HN.out, hx2⟩⟩
        case measure => simp [intOf]; omega
      rw [decide_eq_true h92] at e92
      by_cases hk1 : k + 1 < T.size
      case neg =>
        have hd2 : decide ((T.size : Int) ≤ (k : Int) + 1) = true := decide_eq_true (by omega)
        have hv := HNone.out (HR.out.1.none (Lex.str_cut hkT (by rw [hTc]; exact h92) hk1))
        subst hv
        clear h34 h10 h92
        go_wp2_with fail
        refine bodyPost_ret (results_tmp3 rfl _ _ _) rfl ?_
        exact ⟨rfl, rfl⟩
      have hd2 : decide ((T.size : Int) ≤ (k : Int) + 1) = false := decide_eq_false (by omega)
      have hb2 : (0 : Int) ≤ (k : Int) + 1 := by omega
      have hb3 : (k : Int) + 1 < (T.size : Int) := by omega
      obtain ⟨d, Hd⟩ : ∃ c, Hid (c = T[k + 1]) := ⟨_, Lib.hid rfl⟩
      have hTd : T[k + 1] = d := Hd.out.symm
      have e110 : ((d.toNat : Int) == 110) = decide (d.toNat = 110) := Lex.byte_eq d 110
      have HHd := Lib.hid (fun w => HH.out d w)
      by_cases hdd : d.toNat = 92 ∨ d.toNat = 34 ∨ d.toNat = 110
      case neg =>
        rw [decide_eq_false hdd] at HHd
        have hv := HNone.out (HR.out.1.none (Lex.str_odd hkT (by rw [hTc]; exact h92) hk1 (by rw [hTd]; exact hdd)))
        subst hv
        clear h34 h10 h92 hdd e110
        go_wp2_with fail
        refine (HHd.out _).mono ?_
        rintro e w' ⟨rfl, hw'⟩
        subst hw'
        go_wp2_with fail
        refine bodyPost_ret (results_tmp3 rfl _ _ _) rfl ?_
        exact ⟨rfl, rfl⟩
      rw [decide_eq_true hdd] at HHd
      by_cases h110 : d.toNat = 110
      · rw [decide_eq_true h110] at e110
        have HN := Lib.hid (HR.out.1.more (Lex.str_nl hkT (by rw [hTc]; exact h92) hk1 (by rw [hTd]; exact h110)))
        rw [← Lex.snoc_list out 10] at HN
        have hx2 : (out ++ ⟨#[10]⟩ : ByteArray).size ≤ k + 1 := by rw [ByteArray.size_append]; show out.size + 1 ≤ _; omega
        have hxs : ¬ (9223372036854775807 < out.size + 1) := by omega
        clear h34 h10 h92 hdd h110
        go_wp2_with fail
        refine (HHd.out _).mono ?_
        rintro e w' ⟨rfl, hw'⟩
        subst hw'
        go_wp2_with fail
        go_round
        case rel => exact ⟨k + 2, out ++ ⟨#[10]⟩, by omega, by omega, trivial, by go_num, rfl, Lib.hid ⟨HN.out, by omega⟩⟩
        case measure => simp [intOf]; omega
      · rw [decide_eq_false h110] at e110
        have HN := Lib.hid (HR.out.1.more (Lex.str_same hkT (by rw [hTc]; exact h92) hk1 (by rw [hTd]; omega)))
        rw [← Lex.snoc_cut out hk1] at HN
        have hx1 : (T.extract (k + 1) (k + 1 + 1)).size = 1 := by rw [Lex.extract_one hk1]; rfl
        have hx2 : (out ++ T.extract (k + 1) (k + 1 + 1)).size ≤ k + 1 := by rw [ByteArray.size_append, hx1]; omega
        obtain ⟨X, HX⟩ : ∃ X, Hid (X = T.extract (k + 1) (k + 1 + 1)) := ⟨_, Lib.hid rfl⟩
        have hX : T.extract (k + 1) (k + 1 + 1) = X := HX.out.symm
        rw [hX] at HN hx1 hx2
        have hxs : ¬ (9223372036854775807 < out.size + X.size) := by omega
        have hbk : (k : Int) + 1 + 1 ≤ T.size := by omega
        have hbk2 : (k : Int) + 1 ≤ k + 1 + 1 := by omega
        clear h34 h10 h92 hdd h110 hx1
        go_wp2_with fail
        refine (HHd.out _).mono ?_
        rintro e w' ⟨rfl, hw'⟩
        subst hw'
        go_wp2_with fail
        go_round
        case rel => exact ⟨k + 2, out ++ X, by omega, by omega, trivial, by go_num, rfl, Lib.hid ⟨HN.out, by omega⟩⟩
        case measure => simp [intOf]; omega
    · have hd : decide ((k : Int) < (T.size : Int)) = false := decide_eq_false (by omega)
      have hv := HNone.out (HR.out.1.none (Lex.str_none hkT))
      subst hv
      go_wp2_with fail
      refine bodyPost_ret (results_tmp3 rfl _ _ _) rfl ?_
      exact ⟨rfl, rfl⟩

end Go.Proofs.Ytocbebkcpmodnaa
