/- The walk of 'in' of package bogielaw04. -/
import Derived.Test.YthnipdcdiffioaaIvlRefA
namespace Go.Proofs.Ythnipdcdiffioaa
open Go.RowKit

def Ivl.inB (l h n : Int) : Bool := decide (l ≤ n) && decide (n ≤ h)
theorem Ivl.in_iff {l h n : Int} : Ivl.inB l h n = true ↔ l ≤ n ∧ n ≤ h := by simp [Ivl.inB]
theorem Ivl.inB_false {l h n : Int} (H : ¬ (l ≤ n ∧ n ≤ h)) : Ivl.inB l h n = false := by
  cases hb : Ivl.inB l h n
  · rfl
  · exact absurd (Ivl.in_iff.1 hb) H
set_option maxHeartbeats 1000000 in
theorem in_any (l h n : Int) (w : World) :
    Calls Try.prog 24 #[.agg #[.int .i64 l, .int .i64 h], .int .i64 n] w fun e w' => e = .returned (.bool (Ivl.inB l h n)) ∧ Below w.heap.size w w' := by
  by_cases h1 : l ≤ n
  · by_cases h2 : n ≤ h
    · go_enter Try.func24, Try.ntmps24
      go_wp2
      go_ret
      exact ⟨ret_bool (Ivl.in_iff.2 ⟨h1, h2⟩).symm, (Below.refl _ _).alloc (Nat.le_refl _) _⟩
    · go_enter Try.func24, Try.ntmps24
      go_wp2
      go_ret
      exact ⟨ret_bool (Ivl.inB_false (by omega)).symm, (Below.refl _ _).alloc (Nat.le_refl _) _⟩
  · go_enter Try.func24, Try.ntmps24
    go_wp2
    go_ret
    exact ⟨ret_bool (Ivl.inB_false (by omega)).symm, (Below.refl _ _).alloc (Nat.le_refl _) _⟩

end Go.Proofs.Ythnipdcdiffioaa
