/- Values: holds when all records that give back lie in front; the ids of the holds. -/
import Derived.Test.YtfokbcakbbdlaaaHldAll
namespace Go.Proofs.Ytfokbcakbbdlaaa
namespace Hld

/-! ### The ids hang only on the records that make -/
def idStep (ids : List ByteArray) (x : ByteArray × Rc) : List ByteArray := if makes x.2 then (if ids.any (fun i => decide (i = x.1)) then ids else ids ++ [x.1]) else ids
theorem ids_step (hs : List Hd) (x : ByteArray × Rc) : (step hs x).map (·.id) = idStep (hs.map (·.id)) x := by
  unfold step idStep known
  rw [List.any_map]
  show _ = if makes x.2 then (if hs.any (fun h => decide (h.id = x.1)) then _ else _) else _
  split
  · split
    · rfl
    · rw [List.map_append]; rfl
  · split
    · rw [List.map_map]
      apply List.map_congr_left
      intro h _
      exact give_id x.2 h
    · rfl
theorem ids_fold : ∀ (l : List (ByteArray × Rc)) (hs : List Hd), (l.foldl step hs).map (·.id) = l.foldl idStep (hs.map (·.id))
  | [], _ => rfl
  | x :: l, hs => by rw [List.foldl_cons, List.foldl_cons, ids_fold l, ids_step]
theorem ids_filter : ∀ (l : List (ByteArray × Rc)) (ids : List ByteArray), l.foldl idStep ids = (l.filter fun x => makes x.2).foldl idStep ids
  | [], _ => rfl
  | x :: l, ids => by
    rw [List.foldl_cons, List.filter_cons]
    by_cases h : makes x.2 = true
    · rw [if_pos h, List.foldl_cons, ids_filter l]
    · rw [if_neg h, ids_filter l]
      unfold idStep
      rw [if_neg h]
theorem ids_all (l : List (ByteArray × Rc)) : (allF l).map (·.id) = (l.filter fun x => makes x.2).foldl idStep [] := by
  unfold allF
  rw [ids_fold, ids_filter]
  rfl
theorem ids_same {l l' : List (ByteArray × Rc)} (h : (l.filter fun x => makes x.2) = l'.filter fun x => makes x.2) : (allF l).map (·.id) = (allF l').map (·.id) := by rw [ids_all, ids_all, h]
theorem len_same {l l' : List (ByteArray × Rc)} (h : (l.filter fun x => makes x.2) = l'.filter fun x => makes x.2) : (allF l).length = (allF l').length := by
  have := congrArg List.length (ids_same h)
  simpa using this

/-! ### All that give back in front -/
def sel (p : Nat) (x : ByteArray × Rc) : Bool := decide (x.2.kind = 6) == decide (p = 0)
def doneF (P : List (ByteArray × Rc)) (p : Nat) : List (ByteArray × Rc) := (List.range p).flatMap fun q => P.filter (sel q)
theorem doneF_succ (P : List (ByteArray × Rc)) (p : Nat) : doneF P (p + 1) = doneF P p ++ P.filter (sel p) := by
  unfold doneF
  rw [List.range_succ, List.flatMap_append]
  simp
def Fresh (hs : List Hd) : Prop := ∀ h ∈ hs, h.back = [] ∧ h.members ≠ []
theorem backs_none : ∀ (l : List (ByteArray × Rc)), (∀ x ∈ l, x.2.kind = 6) → l.foldl step [] = []
  | [], _ => rfl
  | x :: l, h => by
    have hx := h x (List.mem_cons_self ..)
    have : step [] x = [] := by
      unfold step makes
      rw [decide_eq_false (by omega), Bool.false_and, if_neg (by simp), if_pos hx]
      rfl
    rw [List.foldl_cons, this]
    exact backs_none l fun y hy => h y (List.mem_cons_of_mem _ hy)
theorem fresh_step {hs : List Hd} {x : ByteArray × Rc} (h : Fresh hs) (hk : x.2.kind ≠ 6) : Fresh (step hs x) := by
  unfold step
  split
  · rename_i hm
    split
    · exact h
    · intro y hy
      rcases List.mem_append.1 hy with hy | hy
      · exact h y hy
      · rw [List.mem_singleton.1 hy]
        unfold makes at hm
        simp only [Bool.and_eq_true, decide_eq_true_eq] at hm
        exact ⟨rfl, hm.2⟩
  · exact h
theorem fresh_fold : ∀ (l : List (ByteArray × Rc)) (hs : List Hd), (∀ x ∈ l, x.2.kind ≠ 6) → Fresh hs → Fresh (l.foldl step hs)
  | [], _, _, h => h
  | x :: l, hs, hl, h => by
    rw [List.foldl_cons]
    exact fresh_fold l _ (fun y hy => hl y (List.mem_cons_of_mem _ hy)) (fresh_step h (hl x (List.mem_cons_self ..)))
theorem done_two (P : List (ByteArray × Rc)) : doneF P 2 = P.filter (sel 0) ++ P.filter (sel 1) := by
  rw [doneF_succ, doneF_succ]; rfl
theorem early_fresh (P : List (ByteArray × Rc)) : Fresh (allF (doneF P 2)) := by
  unfold allF
  rw [done_two, List.foldl_append, backs_none]
  · refine fresh_fold _ _ (fun x hx => ?_) (by intro h hh; simp at hh)
    have := (List.mem_filter.1 hx).2
    unfold sel at this
    simpa using this
  · intro x hx
    have := (List.mem_filter.1 hx).2
    unfold sel at this
    simpa using this
theorem early_len (P : List (ByteArray × Rc)) : (allF (doneF P 2)).length = (allF P).length := by
  apply len_same
  rw [done_two, List.filter_append, List.filter_filter, List.filter_filter]
  have h1 : P.filter (fun a => makes a.2 && sel 0 a) = [] := by
    rw [List.filter_eq_nil_iff]
    intro a _
    unfold makes sel
    simp only [decide_true, Bool.and_eq_true, decide_eq_true_eq, beq_iff_eq, not_and]
    intro h; omega
  rw [h1, List.nil_append]
  apply List.filter_congr
  intro a _
  unfold makes sel
  by_cases h : a.2.kind = 5
  · rw [h]; simp
  · rw [decide_eq_false h]; simp
theorem out_fresh {h : Hd} (hb : h.back = [] ∧ h.members ≠ []) : out h = true := by
  unfold out
  rw [hb.1]
  cases hm : h.members with
  | nil => exact absurd hm hb.2
  | cons a l => rfl
end Hld
end Go.Proofs.Ytfokbcakbbdlaaa
