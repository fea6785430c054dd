/- The law's in: whether a list of strings has one. -/
import Derived.Test.YtknphmkblcbabaaGreatDoorIsS
import Derived.Test.YtknphmkblcbabaaGreatDoorRpFew
namespace Go.Proofs.YtknphmkblcbabaaGreatDoor
open Go.RowKit
open Evt

set_option maxRecDepth 100000 in
set_option maxHeartbeats 4000000 in
theorem in_any (ss : List (List UInt8)) (hl : ss.length ≤ 1000000) (x : ByteArray) (W : World) (va : Value) (ha : IsS W va ss) :
    Calls Tryz.prog 27 #[va, .string x] W fun e w' => e = .returned (.bool (decide (bts x ∈ ss))) ∧ Below W.heap.size W w' := by
  obtain ⟨ao, ac, rfl, ha⟩ := ha
  have HA := Lib.hid ha
  clear ha
  obtain ⟨R, HR0⟩ : ∃ b, Hid (b = decide (bts x ∈ ss)) := ⟨_, Lib.hid rfl⟩
  obtain ⟨n, Hn⟩ : ∃ n, Hid (n = ss.length) := ⟨_, Lib.hid rfl⟩
  rw [← HR0.out, ← Hn.out]
  rw [← Hn.out] at hl
  go_enter Tryz.func27, Tryz.ntmps27
  go_wp2_with fail
  go_loopw [5] (fun i wr => ∃ k : Nat, k ≤ n ∧ i = .int .i64 k ∧ Hid (Below W.heap.size W wr ∧ bts x ∉ ss.take k)) (fun i _ => n - (intOf i).toNat)
  case atStart => exact ⟨0, Nat.zero_le _, by go_num, Lib.hid ⟨Below.refl _ _, by simp⟩⟩
  case round =>
    obtain ⟨k, hk, rfl, HR⟩ := hrel
    by_cases hkn : k < n
    · have hd : decide ((k : Int) < n) = true := decide_eq_true (by omega)
      have hb0 : (0 : Int) ≤ k := by omega
      have hb1 : (k : Int) < n := by omega
      have hkl : k < ss.length := by rw [← Hn.out]; exact hkn
      obtain ⟨ba, rfl, hba, ca⟩ := HA.out k hkl
      have ca := (cellB HR.out.1 hba).trans ca
      obtain ⟨T, HT⟩ : ∃ T : ByteArray, Hid (T = ⟨ss[k].toArray⟩) := ⟨_, Lib.hid rfl⟩
      rw [← HT.out] at ca
      obtain ⟨b, e1⟩ : ∃ b, (T.toList == x.toList) = b := ⟨_, rfl⟩
      have Heb : Hid (decide (ss[k] = bts x) = b) := Lib.hid (by rw [← eq_listL, ← HT.out]; exact e1)
      cases b with
      | true =>
        have HRt : Hid (R = true) := Lib.hid (by rw [HR0.out]; exact decide_eq_true (by rw [← of_decide_eq_true Heb.out]; exact List.getElem_mem hkl))
        obtain rfl := HRt.out
        go_wp2_with fail
        go_ret
        exact ⟨rfl, HR.out.1⟩
      | false =>
        have HNx : Hid (bts x ∉ ss.take (k + 1)) := Lib.hid (by
          rw [← List.take_append_getElem hkl, List.mem_append, List.mem_singleton]
          rintro (h | h)
          · exact HR.out.2 h
          · exact of_decide_eq_false Heb.out h.symm)
        go_wp2_with fail
        go_round
        case rel => exact ⟨k + 1, by omega, by go_num, Lib.hid ⟨HR.out.1, HNx.out⟩⟩
        case measure => simp [intOf]; omega
    · obtain rfl : k = n := by omega
      have hd : decide ((k : Int) < k) = false := decide_eq_false (by omega)
      have HRf : Hid (R = false) := Lib.hid (by
        rw [HR0.out]
        have := HR.out.2
        rw [Hn.out, List.take_length] at this
        exact decide_eq_false this)
      obtain rfl := HRf.out
      go_wp2_with fail
      go_ret
      exact ⟨rfl, HR.out.1⟩
end Go.Proofs.YtknphmkblcbabaaGreatDoor
