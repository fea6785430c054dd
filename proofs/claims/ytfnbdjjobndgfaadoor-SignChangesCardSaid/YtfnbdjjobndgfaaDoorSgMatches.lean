/- The statement that digests are those of the reference: its walk. -/
import Derived.Test.YtfnbdjjobndgfaaDoorSgRef
import Derived.Test.YtfnbdjjobndgfaaDoorGrown
namespace Go.Proofs.YtfnbdjjobndgfaaDoor
open Go.RowKit

def hexVal (c : Int) : Int := if 48 ≤ c ∧ c ≤ 57 then c - 48 else if 97 ≤ c ∧ c ≤ 102 then c - 97 + 10 else -1
set_option maxHeartbeats 1000000 in
theorem refDigit_any (c : Int) (h0 : 0 ≤ c) (h1 : c ≤ 255) (w : World) :
    Calls Tryd.prog 56 #[.int .u8 c] w fun e w' => e = .returned (.int .i64 (hexVal c)) ∧ w = w' := by
  obtain ⟨v, Hv⟩ : ∃ v, Hid (v = hexVal c) := ⟨_, Lib.hid rfl⟩
  have hc : (48 ≤ c ∧ c ≤ 57 ∧ v = c - 48) ∨ (97 ≤ c ∧ c ≤ 102 ∧ v = c - 97 + 10) ∨ (c < 48 ∧ v = -1) ∨ (57 < c ∧ c < 97 ∧ v = -1) ∨ (102 < c ∧ v = -1) := by
    have := Hv.out; unfold hexVal at this; split at this <;> (try split at this) <;> omega
  rw [← Hv.out]
  clear Hv
  have Hc := Lib.hid hc
  clear hc
  by_cases a : c < 48
  · go_enter Tryd.func56, Tryd.ntmps56
    go_wp2
    all_goals
      go_ret
      exact ⟨ret_int (by have := Hc.out; omega), rfl⟩
  · by_cases b : 57 < c
    · by_cases d : c < 97
      · go_enter Tryd.func56, Tryd.ntmps56
        go_wp2
        all_goals
          go_ret
          exact ⟨ret_int (by have := Hc.out; omega), rfl⟩
      · by_cases g : 102 < c
        · go_enter Tryd.func56, Tryd.ntmps56
          go_wp2
          all_goals
            go_ret
            exact ⟨ret_int (by have := Hc.out; omega), rfl⟩
        · go_enter Tryd.func56, Tryd.ntmps56
          go_wp2
          all_goals
            go_ret
            exact ⟨ret_int (by have := Hc.out; omega), rfl⟩
    · go_enter Tryd.func56, Tryd.ntmps56
      go_wp2
      all_goals
        go_ret
        exact ⟨ret_int (by have := Hc.out; omega), rfl⟩
theorem hexVal_neg (c : UInt8) : hexVal c.toNat < 0 ↔ Dig.isHex c = false := by
  have := c.toNat_lt
  unfold hexVal Dig.isHex
  rw [decide_eq_false_iff_not]
  split
  · omega
  · split <;> omega

set_option maxHeartbeats 2000000 in
theorem refIs_any (s : ByteArray) (_ : s.size ≤ 140737488351232) (w : World) :
    Calls Tryd.prog 41 #[.string s] w fun e w' => e = .returned (.bool (Dig.isB s.data.toList)) ∧ w = w' := by
  go_enter Tryd.func41, Tryd.ntmps41
  go_wp2_with fail
  go_loop [3] (fun i => ∃ k : Nat, k ≤ s.size ∧ k ≤ 16 ∧ i = .int .i64 k ∧ Hid (∀ j, (hj : j < s.data.toList.length) → j < k → Dig.isHex s.data.toList[j] = true)) (fun i => s.size - (intOf i).toNat)
  case atStart => exact ⟨0, Nat.zero_le _, by omega, rfl, Lib.hid fun j _ h => absurd h (Nat.not_lt_zero _)⟩
  case round =>
    obtain ⟨k, hk, hk16, rfl, Hall⟩ := hrel
    have hend : ¬ (k < s.size ∧ k < 16) → Hid (Dig.isB s.data.toList = decide (s.size = 16)) := by
      intro hn
      by_cases hz : s.size = 16
      · refine Lib.hid ?_
        have hl : s.data.toList.length = 16 := hz
        rw [Dig.isB_all _ (fun j hj => Hall.out j hj (by omega))]
        exact decide_eq_decide.2 ⟨fun _ => hz, fun _ => hl⟩
      · refine Lib.hid ?_
        rw [decide_eq_false hz]
        unfold Dig.isB
        rw [decide_eq_false (show ¬ s.data.toList.length = 16 from hz), Bool.and_false]
    by_cases hlt : k < s.size
    · by_cases h16 : k < 16
      · have hkl : k < s.data.toList.length := hlt
        have hcl : (s[k].toNat : Int) ≤ 255 := by have := s[k].toNat_lt; omega
        have hc0 : 0 ≤ (s[k].toNat : Int) := by omega
        have Same := Lib.hid (show s.data.toList[k] = s[k] from rfl)
        clear hend
        by_cases hneg : hexVal s[k].toNat < 0
        · have Hbad : Hid (Dig.isB s.data.toList = false) := Lib.hid (Dig.isB_false_at _ k hkl (by rw [Same.out]; exact (hexVal_neg _).1 hneg))
          go_wp2_with (go_at_call 56; refine (refDigit_any _ hc0 hcl _).mono ?_; rintro e w' ⟨rfl, rfl⟩)
          go_ret
          exact ⟨ret_bool Hbad.out.symm, rfl⟩
        · have Hgood : Hid (∀ j, (hj : j < s.data.toList.length) → j < k + 1 → Dig.isHex s.data.toList[j] = true) := by
            refine Lib.hid fun j hj h => ?_
            by_cases e : j = k
            · subst e; rw [Same.out]
              cases hx : Dig.isHex s[j]
              · exact absurd ((hexVal_neg _).2 hx) hneg
              · rfl
            · exact Hall.out j hj (by omega)
          go_wp2_with (go_at_call 56; refine (refDigit_any _ hc0 hcl _).mono ?_; rintro e w' ⟨rfl, rfl⟩)
          go_round
          case rel => exact ⟨k + 1, by omega, by omega, by go_num, Hgood⟩
          case measure => simp [intOf]; omega
      · have Hend := hend (by omega)
        clear hend
        go_wp2
        go_ret
        exact ⟨ret_bool (by rw [Hend.out, Bool.eq_iff_iff]; simp; omega), rfl⟩
    · have Hend := hend (by omega)
      clear hend
      go_wp2
      go_ret
      exact ⟨ret_bool (by rw [Hend.out, Bool.eq_iff_iff]; simp; omega), rfl⟩

theorem refList_any (ao : Option Addr) (ss : List ByteArray) (cap : Nat) (w : World) (h : IsStrs w ao ss) (hf : fewB ss 300 = true) :
    Calls Tryd.prog 42 #[.slice ao ss.length cap] w fun e w' => e = .returned (.string (digestOf (joinText (bytesOf ss)))) ∧ Below w.heap.size w w' := by
  have hlen : (joinText (bytesOf ss)).length ≤ 9630 := by
    have := joinText_take_le' ss hf ss.length
    rwa [List.take_of_length_le (by simp [bytesOf])] at this
  obtain ⟨t, Ht⟩ : ∃ t, Hid (t = joinText (bytesOf ss)) := ⟨_, Lib.hid rfl⟩
  have Hj : Hid (Calls Tryd.prog 44 #[.slice ao ss.length cap] w fun e w' => e = .returned (.string ⟨t.toArray⟩) ∧ Below w.heap.size w w') := by rw [Ht.out]; exact Lib.hid (refJoined_any ao ss cap w h hf)
  rw [← Ht.out] at hlen ⊢
  clear h
  go_enter Tryd.func42, Tryd.ntmps42
  go_wp2_with fail
  refine Hj.out.mono ?_
  rintro e w1 ⟨rfl, hb1⟩
  go_wp2_with fail
  refine (refSum_any ⟨t.toArray⟩ (by show t.toArray.size ≤ _; rw [List.size_toArray]; omega) w1).mono ?_
  rintro e _ ⟨rfl, rfl⟩
  go_wp2
  go_ret
  exact ⟨rfl, hb1⟩

end Go.Proofs.YtfnbdjjobndgfaaDoor
