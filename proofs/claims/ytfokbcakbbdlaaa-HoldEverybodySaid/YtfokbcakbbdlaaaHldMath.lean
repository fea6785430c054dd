/- Holds, as values: what the holds of records are. -/
import Derived.ProofKit
namespace Go.Proofs.Ytfokbcakbbdlaaa
namespace Hld

/-- A record: its cells, and what the holds hang on. -/
structure Rc where
  kind : Int
  author : Int
  target : ByteArray
  name : ByteArray
  members : List Int
  mo : Option Addr
  mc : Nat
  cells : List Value

structure Hd where
  id : ByteArray
  vehicle : ByteArray
  members : List Int
  back : List Int

def makes (r : Rc) : Bool := decide (r.kind = 5) && decide (r.members ≠ [])
def gives (r : Rc) (h : Hd) : Bool := decide (r.target = h.id) && (h.members.contains r.author && !h.back.contains r.author)
def give (r : Rc) (h : Hd) : Hd := if gives r h then { h with back := h.back ++ [r.author] } else h
def known (hs : List Hd) (id : ByteArray) : Bool := hs.any fun h => decide (h.id = id)
/-- One record more. -/
def step (hs : List Hd) (x : ByteArray × Rc) : List Hd :=
  if makes x.2 then (if known hs x.1 then hs else hs ++ [⟨x.1, x.2.name, x.2.members, []⟩])
  else if x.2.kind = 6 then hs.map (give x.2) else hs
def allF (l : List (ByteArray × Rc)) : List Hd := l.foldl step []
def out (h : Hd) : Bool := h.members.any fun m => !h.back.contains m

theorem allF_snoc (l : List (ByteArray × Rc)) (x : ByteArray × Rc) : allF (l ++ [x]) = step (allF l) x := by unfold allF; rw [List.foldl_append]; rfl
theorem give_id (r : Rc) (h : Hd) : (give r h).id = h.id := by unfold give; split <;> rfl
theorem give_members (r : Rc) (h : Hd) : (give r h).members = h.members := by unfold give; split <;> rfl
theorem give_vehicle (r : Rc) (h : Hd) : (give r h).vehicle = h.vehicle := by unfold give; split <;> rfl
theorem known_give (hs : List Hd) (r : Rc) (id : ByteArray) : known (hs.map (give r)) id = known hs id := by
  unfold known
  rw [List.any_map]
  congr 1
  funext h
  show decide ((give r h).id = id) = _
  rw [give_id]
theorem step_len (hs : List Hd) (x : ByteArray × Rc) : (step hs x).length ≤ hs.length + 1 := by
  unfold step
  split
  · split
    · omega
    · rw [List.length_append]; exact Nat.le_refl _
  · split
    · rw [List.length_map]; omega
    · omega
theorem allF_len (l : List (ByteArray × Rc)) : (allF l).length ≤ l.length := by
  have : ∀ (l : List (ByteArray × Rc)) (hs : List Hd), (l.foldl step hs).length ≤ hs.length + l.length := by
    intro l
    induction l with
    | nil => intro hs; exact Nat.le_refl _
    | cons x l ih =>
      intro hs
      have h1 := ih (step hs x)
      have h2 := step_len hs x
      rw [List.foldl_cons, List.length_cons]
      omega
  have h := this l []
  simpa [allF] using h

/-! ### No two holds have one id -/
def Apart (hs : List Hd) : Prop := hs.Pairwise fun a b => a.id ≠ b.id
theorem apart_step {hs : List Hd} (h : Apart hs) (x : ByteArray × Rc) : Apart (step hs x) := by
  unfold step
  split
  · split
    · exact h
    · rename_i hk
      unfold Apart
      rw [List.pairwise_append]
      refine ⟨h, List.pairwise_singleton _ _, fun a ha b hb => ?_⟩
      rw [List.mem_singleton.1 hb]
      intro e
      apply hk
      unfold known
      rw [List.any_eq_true]
      exact ⟨a, ha, by simpa using e⟩
  · split
    · unfold Apart
      rw [List.pairwise_map]
      exact h.imp fun {a b} hab => by rw [give_id, give_id]; exact hab
    · exact h
theorem apart_fold : ∀ (l : List (ByteArray × Rc)) (hs : List Hd), Apart hs → Apart (l.foldl step hs)
  | [], _, h => h
  | x :: l, hs, h => apart_fold l (step hs x) (apart_step h x)
theorem apart_all (l : List (ByteArray × Rc)) : Apart (allF l) := apart_fold l [] List.Pairwise.nil

/-! ### The first hold with an id -/
def find (hs : List Hd) (id : ByteArray) : Option Nat := hs.findIdx? fun h => decide (h.id = id)
theorem known_find (hs : List Hd) (id : ByteArray) : known hs id = (find hs id).isSome := by
  unfold known find
  rw [List.findIdx?_isSome]
theorem find_some {hs : List Hd} {id : ByteArray} {j : Nat} (h : find hs id = some j) : ∃ hj : j < hs.length, hs[j].id = id := by
  unfold find at h
  rw [List.findIdx?_eq_some_iff_getElem] at h
  obtain ⟨h1, h2, _⟩ := h
  exact ⟨h1, by simpa using h2⟩
theorem find_at {hs : List Hd} (h : Apart hs) {j : Nat} (hj : j < hs.length) : find hs hs[j].id = some j := by
  unfold find
  rw [List.findIdx?_eq_some_iff_getElem]
  refine ⟨hj, by simp, fun i hi => ?_⟩
  have := List.pairwise_iff_getElem.1 h i j (by omega) hj hi
  simpa using this
/-- A record that gives back changes at most the hold that it names. -/
theorem give_set {hs : List Hd} (h : Apart hs) {r : Rc} {j : Nat} (hj : j < hs.length) (ht : hs[j].id = r.target) : hs.map (give r) = hs.set j (give r hs[j]) := by
  apply List.ext_getElem
  · rw [List.length_map, List.length_set]
  intro i h1 h2
  rw [List.length_map] at h1
  rw [List.getElem_map, List.getElem_set]
  split
  · rename_i e; subst e; rfl
  · rename_i hne
    unfold give gives
    have : hs[i].id ≠ hs[j].id := by
      rcases Nat.lt_or_ge i j with h3 | h3
      · exact List.pairwise_iff_getElem.1 h i j h1 hj h3
      · exact (List.pairwise_iff_getElem.1 h j i hj h1 (by omega)).symm
    rw [decide_eq_false (fun e => this (by rw [ht, e]))]
    simp
theorem give_none {hs : List Hd} {r : Rc} (h : find hs r.target = none) : hs.map (give r) = hs := by
  unfold find at h
  rw [List.findIdx?_eq_none_iff] at h
  have : ∀ x ∈ hs, give r x = x := fun x hx => by
    have h1 := h x hx
    unfold give gives
    have h2 : ¬ r.target = x.id := fun e => by rw [e] at h1; simp at h1
    rw [decide_eq_false h2]; simp
  exact (List.map_congr_left this).trans (List.map_id _)
end Hld
end Go.Proofs.Ytfokbcakbbdlaaa
