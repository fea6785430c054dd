/- Weights times a number: the same shares. -/
import Derived.Test.YtbiibpjjjjedgaaDoorMonSplitAny
namespace Go.Proofs.YtbiibpjjjjedgaaDoor
open Go.RowKit

/-- A part of which the rest is a multiple. -/
def Mon.times (k : Int) (p : Mon.Part) : Mon.Part := ⟨p.i, p.q, k * p.r⟩
theorem Mon.ordB_times {k : Int} (hk : 1 ≤ k) (p s : Mon.Part) : Mon.ordB (Mon.times k p) (Mon.times k s) = Mon.ordB p s := by
  unfold Mon.ordB Mon.times
  have h1 : (k * s.r < k * p.r) ↔ s.r < p.r := ⟨fun h => Int.lt_of_mul_lt_mul_left h (by omega), fun h => Int.mul_lt_mul_of_pos_left h (by omega)⟩
  have h2 : (k * s.r = k * p.r) ↔ s.r = p.r := ⟨fun h => Int.eq_of_mul_eq_mul_left (by omega) h, fun h => by rw [h]⟩
  simp only [h1, h2]
theorem Mon.rank_times {k : Int} (hk : 1 ≤ k) (P : List Mon.Part) (x : Mon.Part) : Mon.rank (P.map (Mon.times k)) (Mon.times k x) = Mon.rank P x := by
  unfold Mon.rank
  rw [List.countP_map]
  refine List.countP_congr fun p _ => ?_
  simp only [Function.comp, Mon.ordB_times hk]
theorem part_times {n s k : Int} (hk : 1 ≤ k) (zs : List Int) (j : Nat) : partAt n (k * s) (zs.map (k * ·)) j = Mon.times k (partAt n s zs j) := by
  have e : (zs.map (k * ·))[j]?.getD 0 = k * (zs[j]?.getD 0) := by
    rw [List.getElem?_map]
    cases zs[j]? with
    | none => simp
    | some z => rfl
  unfold partAt Mon.times
  rw [e, show n * (k * (zs[j]?.getD 0)) = k * (n * (zs[j]?.getD 0)) by rw [← Int.mul_assoc, Int.mul_comm n k, Int.mul_assoc], Int.mul_ediv_mul_of_pos _ _ (by omega), Int.mul_emod_mul_of_pos _ _ (by omega)]
theorem qsum_times {n s k : Int} (hk : 1 ≤ k) (zs : List Int) (m : Nat) : qsum n (k * s) (zs.map (k * ·)) m = qsum n s zs m := by
  induction m with
  | zero => rfl
  | succ m ih =>
    show qsum n (k * s) (zs.map (k * ·)) m + (partAt n (k * s) (zs.map (k * ·)) m).q = qsum n s zs m + (partAt n s zs m).q
    rw [ih, part_times hk]
    rfl
theorem shares_times {n s k : Int} (hk : 1 ≤ k) (zs : List Int) : shares n (k * s) (zs.map (k * ·)) = shares n s zs := by
  unfold shares
  rw [List.length_map]
  refine List.map_congr_left fun j _ => ?_
  have e : partsTo n (k * s) (zs.map (k * ·)) zs.length = (partsTo n s zs zs.length).map (Mon.times k) := by
    unfold partsTo
    rw [List.map_map]
    exact List.map_congr_left fun i _ => part_times hk zs i
  unfold Mon.fin
  rw [e, part_times hk, Mon.rank_times hk, qsum_times hk]
  rfl
theorem sum_times (k : Int) (zs : List Int) : (zs.map (k * ·)).sum = k * zs.sum := by
  induction zs with
  | nil => simp
  | cons a l ih => simp only [List.map_cons, List.sum_cons, ih, Int.mul_add]
theorem split_times {n k : Int} {zs : List Int} (hk : 1 ≤ k) (hz : ∀ z ∈ zs, 0 ≤ z ∧ k * z ≤ 9999999) : Mon.splitB n (zs.map (k * ·)) = Mon.splitB n zs ∧ Mon.splitV n (zs.map (k * ·)) = Mon.splitV n zs ∧ Mon.splitE n (zs.map (k * ·)) = Mon.splitE n zs := by
  have hb : Mon.splitB n (zs.map (k * ·)) = Mon.splitB n zs := by
    rw [Bool.eq_iff_iff, Mon.splitB_iff, Mon.splitB_iff, List.length_map, sum_times]
    have hs : 0 < k * zs.sum ↔ 0 < zs.sum := ⟨fun h => by
      rcases Int.lt_or_le 0 zs.sum with h1 | h1
      · exact h1
      · have := Int.mul_nonpos_of_nonneg_of_nonpos (show 0 ≤ k by omega) h1; omega, fun h => Int.mul_pos (by omega) h⟩
    rw [hs]
    have h1 : (∀ z ∈ zs.map (k * ·), 0 ≤ z ∧ z ≤ 9999999) := by
      intro z hm
      obtain ⟨y, hy, rfl⟩ := List.mem_map.1 hm
      exact ⟨Int.mul_nonneg (by omega) (hz y hy).1, (hz y hy).2⟩
    have h2 : (∀ z ∈ zs, 0 ≤ z ∧ z ≤ 9999999) := by
      intro z hm
      obtain ⟨a, b⟩ := hz z hm
      have : 1 * z ≤ k * z := Int.mul_le_mul_of_nonneg_right hk a
      exact ⟨a, by omega⟩
    constructor
    · rintro ⟨⟨a, _, c⟩, d⟩; exact ⟨⟨a, h2, c⟩, d⟩
    · rintro ⟨⟨a, _, c⟩, d⟩; exact ⟨⟨a, h1, c⟩, d⟩
  refine ⟨hb, ?_, ?_⟩
  · unfold Mon.splitV; rw [hb, sum_times, shares_times hk]
  · unfold Mon.splitE; rw [hb]

end Go.Proofs.YtbiibpjjjjedgaaDoor
