/- Values: the reference's list of holds is the same list. -/
import Derived.Test.YtfokbcakbbdlaaaHldEarlyM
namespace Go.Proofs.Ytfokbcakbbdlaaa
namespace Hld

/-- What one record does to one hold. -/
def gv (r : Rc) (h : Hd) : Hd := if r.kind = 6 then give r h else h
def backF (l : List (ByteArray × Rc)) (h : Hd) : Hd := l.foldl (fun h y => gv y.2 h) h
/-- Whether a record behind these makes a hold. -/
def madeB (l : List (ByteArray × Rc)) (x : ByteArray × Rc) : Bool := makes x.2 && !(l.any fun y => makes y.2 && decide (y.1 = x.1))
def oneF (l : List (ByteArray × Rc)) (i : Nat) : List Hd :=
  match l[i]? with
  | some x => if madeB (l.take i) x then [backF (l.drop (i + 1)) ⟨x.1, x.2.name, x.2.members, []⟩] else []
  | none => []
/-- The reference's list behind so many records. -/
def refTo (l : List (ByteArray × Rc)) (n : Nat) : List Hd := (List.range n).flatMap (oneF l)
theorem refTo_succ (l : List (ByteArray × Rc)) (n : Nat) : refTo l (n + 1) = refTo l n ++ oneF l n := by
  unfold refTo
  rw [List.range_succ, List.flatMap_append]
  simp
theorem backF_snoc (l : List (ByteArray × Rc)) (x : ByteArray × Rc) (h : Hd) : backF (l ++ [x]) h = gv x.2 (backF l h) := by
  unfold backF
  rw [List.foldl_append]
  rfl
theorem oneF_snoc {l : List (ByteArray × Rc)} {x : ByteArray × Rc} {i : Nat} (hi : i < l.length) : oneF (l ++ [x]) i = (oneF l i).map (gv x.2) := by
  unfold oneF
  rw [List.getElem?_append_left hi, List.getElem?_eq_getElem hi]
  dsimp only
  rw [List.take_append_of_le_length (by omega), List.drop_append_of_le_length (by omega), backF_snoc]
  split <;> rfl
theorem refTo_snoc (l : List (ByteArray × Rc)) (x : ByteArray × Rc) : ∀ n, n ≤ l.length → refTo (l ++ [x]) n = (refTo l n).map (gv x.2)
  | 0, _ => rfl
  | n + 1, h => by
    rw [refTo_succ, refTo_succ, refTo_snoc l x n (by omega), oneF_snoc (by omega), List.map_append]
theorem known_step (hs : List Hd) (x : ByteArray × Rc) (id : ByteArray) : known (step hs x) id = (known hs id || (makes x.2 && decide (x.1 = id))) := by
  unfold step
  cases hm : makes x.2 with
  | true =>
    rw [if_pos rfl]
    cases hk : known hs x.1 with
    | true =>
      rw [if_pos rfl]
      by_cases h : x.1 = id
      · rw [← h, hk]; rfl
      · rw [decide_eq_false h]; simp
    | false =>
      rw [if_neg (by simp)]
      unfold known
      rw [List.any_append]
      simp
  | false =>
    rw [if_neg (by simp)]
    split
    · rw [known_give]; simp
    · simp
theorem known_all (id : ByteArray) : ∀ (l : List (ByteArray × Rc)) (hs : List Hd), known (l.foldl step hs) id = (known hs id || l.any fun y => makes y.2 && decide (y.1 = id))
  | [], hs => by simp
  | x :: l, hs => by
    rw [List.foldl_cons, known_all id l, known_step, List.any_cons, Bool.or_assoc]
theorem map_gv_id {r : Rc} (h : r.kind ≠ 6) (hs : List Hd) : hs.map (gv r) = hs := by
  have : gv r = id := by funext y; unfold gv; rw [if_neg h]; rfl
  rw [this, List.map_id]
theorem step_gv (hs : List Hd) (x : ByteArray × Rc) : step hs x = hs.map (gv x.2) ++ (if makes x.2 && !known hs x.1 then [⟨x.1, x.2.name, x.2.members, []⟩] else []) := by
  unfold step
  cases hm : makes x.2 with
  | true =>
    have h6 : x.2.kind ≠ 6 := by
      unfold makes at hm
      simp only [Bool.and_eq_true, decide_eq_true_eq] at hm
      omega
    rw [if_pos rfl, map_gv_id h6]
    cases hk : known hs x.1 <;> simp
  | false =>
    rw [if_neg (by simp)]
    by_cases h6 : x.2.kind = 6
    · rw [if_pos h6]
      have : gv x.2 = give x.2 := by funext y; unfold gv; rw [if_pos h6]
      rw [this]
      simp
    · rw [if_neg h6, map_gv_id h6]
      simp
theorem ref_all (l : List (ByteArray × Rc)) : refTo l l.length = allF l := by
  have key : ∀ n, ∀ l : List (ByteArray × Rc), l.length = n → refTo l n = allF l := by
    intro n
    induction n with
    | zero =>
      intro l hl
      rw [List.eq_nil_of_length_eq_zero hl]
      rfl
    | succ n ih =>
      intro l hl
      obtain ⟨l', x, rfl⟩ : ∃ l' x, l = l' ++ [x] := ⟨l.dropLast, l.getLast (by intro h; rw [h] at hl; simp at hl), (List.dropLast_concat_getLast _).symm⟩
      have hl' : l'.length = n := by simpa using hl
      rw [refTo_succ, refTo_snoc l' x n (by omega), ih l' hl', allF_snoc, step_gv]
      congr 1
      unfold oneF
      rw [List.getElem?_append_right (by omega), hl', Nat.sub_self]
      have hk : known (allF l') x.1 = l'.any fun y => makes y.2 && decide (y.1 = x.1) := by
        unfold allF
        rw [known_all]
        rfl
      rw [hk]
      show (if madeB ((l' ++ [x]).take n) x then _ else _) = _
      rw [List.take_append_of_le_length (by omega), List.take_of_length_le (by omega), List.drop_eq_nil_of_le (by simp; omega)]
      rfl
  exact key _ l rfl
end Hld
end Go.Proofs.Ytfokbcakbbdlaaa
