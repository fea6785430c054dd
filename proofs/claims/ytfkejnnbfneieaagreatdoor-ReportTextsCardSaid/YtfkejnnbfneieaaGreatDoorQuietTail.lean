/- A region that draws its order: operations that only read, guarded or not, met by the quiet walk; then one store, append or call, and what waits for it. -/
import Derived.Test.YtfkejnnbfneieaaGreatDoorBase
import Derived.StillTail
import Derived.BigQuiet
import Derived.Deep.QuietTactic
namespace Go.Proofs.YtfkejnnbfneieaaGreatDoor
open Go.RowKit

theorem still_of_quiet {P : Program} {ops : Array Oper} {w : World} {Q : Act → Prop} : ∀ (l : List Oper) (a : Act), wpQuiet P ops (fun w' => w' = w) Q l a → wpStill P ops w Q l a
  | [], _, h => h
  | o :: rest, a, h => by
    unfold wpQuiet at h
    unfold wpStill
    split at h
    · rename_i hw
      rw [if_pos hw]
      obtain ⟨v, h1, h2⟩ := h
      have h3 := h1 w rfl
      unfold Oper.quietAt at h3
      unfold Oper.still
      generalize (execOp a.eval o).run P w = r at h3
      cases r with
      | halt x y => exact h3.elim
      | ok x w' =>
        cases x with
        | value u =>
          obtain ⟨h4, h5⟩ := h3
          exact ⟨h4, by rw [h5]; exact still_of_quiet rest _ h2⟩
        | skip =>
          obtain ⟨h4, h5⟩ := h3
          exact ⟨h4, by rw [← h5]; exact still_of_quiet rest _ h2⟩
        | enter f args =>
          obtain ⟨h4, h5⟩ := h3
          exact ⟨h4, v, h5, still_of_quiet rest _ h2⟩
        | _ => exact h3.elim
    · rename_i hw
      rw [if_neg hw]
      exact still_of_quiet rest _ h

theorem wp_region_quiet_tail {P : Program} {id : Nat} {Q : Exit → Act → World → Prop} {a : Act} {w : World} {l : List Oper} (n : Nat) (hm : P.follows .mixedOrders = true) (hB : Region.lexTailB .any l.toArray n = true)
    (h : wpQuiet P l.toArray (fun w' => w' = w.drew) (fun a' => wpList P l.toArray Q (l.drop n) a' w.drew) (l.take n) a) : (Code.region id l.toArray true).wp P Q a w :=
  wp_region_still_tail n hm hB (still_of_quiet _ _ h)

end Go.Proofs.YtfkejnnbfneieaaGreatDoor
