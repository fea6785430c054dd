/- The doubts of the sets together are those of all. -/
import Derived.Test.YtolnpimnoajcaaaLnkOfM
import Derived.Test.YtolnpimnoajcaaaLnkDoubts
namespace Go.Proofs.Ytolnpimnoajcaaa
open Go.RowKit
open Evt
namespace Lnk
noncomputable def pD (l : List Rp) (i : Nat) : Bool := match l[i]? with | some r => dbt r | none => false
theorem sum_setF (k : Nat) (p : Nat → Bool) : ∀ (l : List (List Nat)) (t : Nat) (h : t < l.length), ((l.set t (l[t] ++ [k])).map (List.countP p)).sum = (l.map (List.countP p)).sum + if p k then 1 else 0
  | [], t, h => by simp at h
  | g :: l, 0, _ => by simp [List.countP_append, List.countP_singleton]; omega
  | g :: l, t + 1, h => by
    have := sum_setF k p l t (by simpa using h)
    simp only [List.set_cons_succ, List.map_cons, List.sum_cons, List.getElem_cons_succ]
    omega
theorem groups_count (r : Nat → Nat) (p : Nat → Bool) : ∀ n, ((groups r n).map (List.countP p)).sum = (List.range n).countP p
  | 0 => by simp [groups, reps]
  | n + 1 => by
    have ih := groups_count r p n
    rw [List.range_succ, List.countP_append, ← ih, List.countP_singleton]
    cases h : at? r n (r n) with
    | none => rw [groups_new h, List.map_append, List.sum_append]; simp [List.countP_singleton]
    | some t =>
      obtain ⟨h1, _⟩ := at_some h
      have h2 : t < (groups r n).length := by rw [groups_len]; exact h1
      rw [groups_old h h2, sum_setF n p _ t h2]
theorem doubts_pick (l : List Rp) : ∀ g : List Nat, (∀ i ∈ g, i < l.length) → doubts (g.filterMap fun i => l[i]?) = g.countP (pD l)
  | [], _ => rfl
  | i :: g, h => by
    have ih := doubts_pick l g (fun j hj => h j (List.mem_cons_of_mem _ hj))
    have hi := h i (List.mem_cons_self ..)
    unfold doubts at ih ⊢
    rw [List.filterMap_cons, List.getElem?_eq_getElem hi, List.countP_cons, List.countP_cons, ih]
    congr 1
    unfold pD
    rw [List.getElem?_eq_getElem hi]
theorem doubts_take (l : List Rp) : ∀ k, k ≤ l.length → (List.range k).countP (pD l) = doubts (l.take k)
  | 0, _ => rfl
  | k + 1, h => by
    have ih := doubts_take l k (by omega)
    have hk : k < l.length := by omega
    rw [List.range_succ, List.countP_append, ih, List.countP_singleton]
    unfold doubts
    rw [← List.take_append_getElem hk, List.countP_append, List.countP_singleton]
    unfold pD
    rw [List.getElem?_eq_getElem hk]
theorem doubts_range (l : List Rp) : (List.range l.length).countP (pD l) = doubts l := by
  rw [doubts_take l _ (Nat.le_refl _), List.take_length]
/-- What the law sums up. -/
theorem doubts_sum (l : List Rp) (r : Nat → Nat) : ((groups r l.length).map (List.countP (pD l))).sum = doubts l := by
  rw [groups_count, doubts_range]
theorem doubts_le (l : List Rp) : doubts l ≤ l.length := List.countP_le_length
end Lnk
end Go.Proofs.Ytolnpimnoajcaaa
