/- The walk of package digest: whether a text is a digest. -/
import Derived.Test.YtfnbdjjobndgfaaDoorDigWalksC
import Derived.Test.YtfnbdjjobndgfaaDoorDigMathB
namespace Go.Proofs.YtfnbdjjobndgfaaDoor
open Go.RowKit

set_option maxHeartbeats 2000000 in
theorem is_any (s : ByteArray) (hs : s.size ≤ 140737488351232) (w : World) :
    Calls Tryd.prog 20 #[.string s] w fun e w' => e = .returned (.bool (Dig.isB s.data.toList)) ∧ w = w' := by
  go_enter Tryd.func20, Tryd.ntmps20
  go_wp2
  go_loop [7] (fun i => ∃ k : Nat, k ≤ s.size ∧ i = .int .i64 k ∧ Hid (∀ j, (hj : j < s.data.toList.length) → j < k → Dig.isHex s.data.toList[j] = true)) (fun i => s.size - (intOf i).toNat)
  case atStart => exact ⟨0, Nat.zero_le _, rfl, Lib.hid fun j _ h => absurd h (Nat.not_lt_zero _)⟩
  case round =>
    obtain ⟨k, hk, rfl, Hall⟩ := hrel
    by_cases hlt : k < s.size
    · have hkl : k < s.data.toList.length := hlt
      have hcl : (s[k].toNat : Int) < 256 := by have := s[k].toNat_lt; omega
      have hc0 : 0 ≤ (s[k].toNat : Int) := by omega
      have same : s.data.toList[k] = s[k] := rfl
      have Same := Lib.hid same
      clear same
      have hgood : Dig.isHex s[k] = true → Hid (∀ j, (hj : j < s.data.toList.length) → j < k + 1 → Dig.isHex s.data.toList[j] = true) := by
        intro hx
        refine Lib.hid fun j hj h => ?_
        by_cases e : j = k
        · subst e; rw [Same.out]; exact hx
        · exact Hall.out j hj (by omega)
      have Hgood := Lib.hid hgood
      clear hgood
      by_cases h1 : (s[k].toNat : Int) < 48
      · have Hbad : Hid (Dig.isB s.data.toList = false) := Lib.hid (Dig.isB_false_at _ k hkl (by rw [Same.out]; unfold Dig.isHex; rw [decide_eq_false]; omega))
        have h3 : (s[k].toNat : Int) < 97 := by omega
        go_wp2
        go_ret
        exact ⟨ret_bool Hbad.out.symm, rfl⟩
      · by_cases h2 : 57 < (s[k].toNat : Int)
        · by_cases h3 : (s[k].toNat : Int) < 97
          · have Hbad : Hid (Dig.isB s.data.toList = false) := Lib.hid (Dig.isB_false_at _ k hkl (by rw [Same.out]; unfold Dig.isHex; rw [decide_eq_false]; omega))
            go_wp2
            go_ret
            exact ⟨ret_bool Hbad.out.symm, rfl⟩
          · by_cases h4 : 102 < (s[k].toNat : Int)
            · have Hbad : Hid (Dig.isB s.data.toList = false) := Lib.hid (Dig.isB_false_at _ k hkl (by rw [Same.out]; unfold Dig.isHex; rw [decide_eq_false]; omega))
              go_wp2
              go_ret
              exact ⟨ret_bool Hbad.out.symm, rfl⟩
            · go_wp2
              go_round
              case rel => exact ⟨k + 1, by omega, by go_num, Hgood.out (by unfold Dig.isHex; rw [decide_eq_true]; omega)⟩
              case measure => simp [intOf]; omega
        · go_wp2
          go_round
          case rel => exact ⟨k + 1, by omega, by go_num, Hgood.out (by unfold Dig.isHex; rw [decide_eq_true]; omega)⟩
          case measure => simp [intOf]; omega
    · go_wp2
      go_ret
      exact ⟨ret_bool (by rw [Dig.isB_all _ (fun j hj => Hall.out j hj (by have : s.data.toList.length = s.size := rfl; omega)), show s.data.toList.length = s.size from rfl, Bool.eq_iff_iff]; simp; omega), rfl⟩

end Go.Proofs.YtfnbdjjobndgfaaDoor
