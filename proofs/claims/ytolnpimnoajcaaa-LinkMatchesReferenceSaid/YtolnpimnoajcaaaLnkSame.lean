/- The sets depend only on which indices have one root. -/
import Derived.Test.YtolnpimnoajcaaaLnkGrp
namespace Go.Proofs.Ytolnpimnoajcaaa
open Go.RowKit
namespace Lnk
theorem reps_congr {r r' : Nat → Nat} {n : Nat} (h : ∀ a b, a < n → b < n → (r a = r b ↔ r' a = r' b)) : reps r n = reps r' n := by
  unfold reps
  refine List.filter_congr fun i hi => ?_
  have hi : i < n := by simpa using hi
  rw [Bool.eq_iff_iff]
  simp only [List.all_eq_true, List.mem_range, bne_iff_ne, ne_eq]
  exact ⟨fun hh j hj e => hh j hj ((h j i (by omega) hi).2 e), fun hh j hj e => hh j hj ((h j i (by omega) hi).1 e)⟩
theorem groups_congr {r r' : Nat → Nat} {n : Nat} (h : ∀ a b, a < n → b < n → (r a = r b ↔ r' a = r' b)) : groups r n = groups r' n := by
  unfold groups
  rw [reps_congr h]
  refine List.map_congr_left fun i hi => List.filter_congr fun j hj => ?_
  have hi := reps_lt hi
  have hj : j < n := by simpa using hj
  rw [Bool.eq_iff_iff]
  simp only [beq_iff_eq]
  exact h j i hj hi
end Lnk
end Go.Proofs.Ytolnpimnoajcaaa
