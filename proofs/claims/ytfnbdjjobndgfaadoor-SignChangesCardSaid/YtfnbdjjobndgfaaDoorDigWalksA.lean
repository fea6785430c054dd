/- The walks of package digest: what each function returns, for every world. -/
import Derived.Test.YtfnbdjjobndgfaaDoorBase
import Derived.Test.YtfnbdjjobndgfaaDoorDigMath
import Derived.WalkKit
import Derived.WalkSpells
import Derived.WalkLawsBesides
import Derived.Lib.Hide
namespace Go.Proofs.YtfnbdjjobndgfaaDoor
open Go.RowKit

set_option maxHeartbeats 400000 in
theorem mix_any (x : Nat) (hx : x < 18446744073709551616) (w : World) :
    Calls Tryd.prog 59 #[.int .u64 x] w fun e w' => e = .returned (.int .u64 (Dig.mixN x)) ∧ w = w' := by
  have _ := hx
  go_enter Tryd.func59, Tryd.ntmps59
  go_wp2
  go_ret
  exact ⟨ret_int (Dig.mix_walk x), rfl⟩

set_option maxHeartbeats 1000000 in
theorem number_any (b0 b1 b2 b3 b4 b5 b6 b7 : UInt8) (w : World) :
    Calls Tryd.prog 60 #[.agg #[.int .u8 b0.toNat, .int .u8 b1.toNat, .int .u8 b2.toNat, .int .u8 b3.toNat, .int .u8 b4.toNat, .int .u8 b5.toNat, .int .u8 b6.toNat, .int .u8 b7.toNat]] w
      fun e w' => e = .returned (.int .u64 (Dig.num [b0, b1, b2, b3, b4, b5, b6, b7])) ∧ Below w.heap.size w w' := by
  have hix : ∀ k : Nat, k < 8 → ∀ w, (Instr.index 73 (.agg #[.int .u8 b0.toNat, .int .u8 b1.toNat, .int .u8 b2.toNat, .int .u8 b3.toNat, .int .u8 b4.toNat, .int .u8 b5.toNat, .int .u8 b6.toNat, .int .u8 b7.toNat]) (.int .i64 k)).run Tryd.prog w = .ok (.int .u8 ([b0, b1, b2, b3, b4, b5, b6, b7].getD k 0).toNat) w := by
    intro k hk w
    have hc : k = 0 ∨ k = 1 ∨ k = 2 ∨ k = 3 ∨ k = 4 ∨ k = 5 ∨ k = 6 ∨ k = 7 := by omega
    rcases hc with rfl | rfl | rfl | rfl | rfl | rfl | rfl | rfl <;> (show _ = _; kernel_rfl)
  go_enter Tryd.func60, Tryd.ntmps60
  go_wp2
  go_loop [3, 7] (fun x i => ∃ k : Nat, k ≤ 8 ∧ i = .int .i64 k ∧ x = .int .u64 (Dig.num ([b0, b1, b2, b3, b4, b5, b6, b7].take k))) (fun _ i => 8 - (intOf i).toNat)
  case atStart => exact ⟨0, by omega, rfl, rfl⟩
  case round =>
    obtain ⟨k, hk, rfl, rfl⟩ := hrel
    by_cases hlt : k < 8
    · have hx := hix k hlt
      go_wp2
      go_round
      case rel => exact ⟨k + 1, by omega, by go_num, by rw [Dig.num_step [b0, b1, b2, b3, b4, b5, b6, b7] k rfl hlt]⟩
      case measure => simp [intOf]; omega
    · go_wp2
      go_ret
      exact ⟨ret_int (by rw [List.take_of_length_le (by simp; omega)]), (Below.refl _ _).alloc (Nat.le_refl _) _⟩

end Go.Proofs.YtfnbdjjobndgfaaDoor
