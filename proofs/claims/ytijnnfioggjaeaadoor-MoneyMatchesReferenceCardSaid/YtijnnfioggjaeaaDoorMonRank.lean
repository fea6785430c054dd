/- The plain mathematics of ranks in a sorted list. Nothing of the program is imported. -/
import Derived.Test.YtijnnfioggjaeaaDoorMonMath
namespace Go.Proofs.YtijnnfioggjaeaaDoor.Mon

def ordB (p s : Part) : Bool := decide (s.r < p.r) || (decide (s.r = p.r) && decide (p.i < s.i))
theorem ordB_iff {p s : Part} : ordB p s = true ↔ ord p s := by simp [ordB, ord]
theorem ordB_no {p s : Part} (h : ¬ ord p s) : ordB p s = false := by
  cases hb : ordB p s
  · rfl
  · exact absurd (ordB_iff.1 hb) h
/-- How many parts come before one. -/
def rank (P : List Part) (x : Part) : Nat := P.countP fun p => ordB p x
theorem rank_at {L : List Part} (hs : L.Pairwise ord) (s : Nat) (h : s < L.length) : rank L L[s] = s := by
  have e : L = L.take s ++ L[s] :: L.drop (s + 1) := by
    rw [← List.drop_eq_getElem_cons h, List.take_append_drop]
  have hp := hs
  rw [e, List.pairwise_append] at hp
  obtain ⟨_, h2, h3⟩ := hp
  have h2' := (List.pairwise_cons.1 h2).1
  have c1 : (L.take s).countP (fun p => ordB p L[s]) = s := by
    have : (L.take s).length = s := by rw [List.length_take]; omega
    rw [List.countP_eq_length.2 (fun a ha => ordB_iff.2 (h3 a ha _ List.mem_cons_self)), this]
  have c2 : (L.drop (s + 1)).countP (fun p => ordB p L[s]) = 0 := by
    rw [List.countP_eq_zero]
    intro a ha hb
    have k1 := h2' a ha
    have k2 := ordB_iff.1 hb
    unfold ord at k1 k2
    omega
  have c3 : ordB L[s] L[s] = false := ordB_no (by unfold ord; omega)
  unfold rank
  have e2 : L.countP (fun p => ordB p L[s]) = (L.take s ++ L[s] :: L.drop (s + 1)).countP (fun p => ordB p L[s]) := by rw [← e]
  rw [e2, List.countP_append, List.countP_cons, c1, c2, c3]
  simp
theorem rank_perm {L P : List Part} (hp : L.Perm P) (x : Part) : rank L x = rank P x := hp.countP_eq _
/-- The share of a part: rounded down, and one more for the first ones. -/
def fin (P : List Part) (left : Int) (x : Part) : Int := x.q + if (rank P x : Int) < left then 1 else 0

end Go.Proofs.YtijnnfioggjaeaaDoor.Mon
