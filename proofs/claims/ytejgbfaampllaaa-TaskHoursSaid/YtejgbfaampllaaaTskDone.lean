/- States of work: their mathematics. -/
import Derived.Test.YtejgbfaampllaaaTskCritMath
namespace Go.Proofs.Ytejgbfaampllaaa.Tsk

def dn (done : List Bool) (j : Nat) : Bool := done.getD j false
theorem dn_get {done : List Bool} {j : Nat} (h : j < done.length) : dn done j = done[j] := by
  unfold dn
  rw [List.getD_eq_getElem?_getD, List.getElem?_eq_getElem h]; rfl
def needsDone (l : List Tk) (done : List Bool) (i : Nat) : Bool := (needsAt l i).all (dn done)
def rdB (l : List Tk) (done : List Bool) (i : Nat) : Bool := !(dn done i) && needsDone l done i
def readyUp (l : List Tk) (done : List Bool) (k : Nat) : List Nat := (List.range k).filter (rdB l done)
theorem readyUp_succ (l : List Tk) (done : List Bool) (k : Nat) : readyUp l done (k + 1) = if rdB l done k then readyUp l done k ++ [k] else readyUp l done k := by
  unfold readyUp
  rw [List.range_succ, List.filter_append]
  simp only [List.filter_cons, List.filter_nil]
  split <;> simp
theorem readyUp_len (l : List Tk) (done : List Bool) (k : Nat) : (readyUp l done k).length ≤ k := by
  unfold readyUp
  have := List.length_filter_le (rdB l done) (List.range k)
  simpa using this
def readyV (l : List Tk) (done : List Bool) : List Nat := if validB l && decide (done.length = l.length) then readyUp l done l.length else []
/-- What is asked of each index is right. -/
theorem all_needs {l : List Tk} {t : Tk} {i : Nat} (h : needsAt l i = needs t) (p : Nat → Bool) : (needsAt l i).all p = t.after.all fun x => p x.toNat := by
  rw [h]
  unfold needs
  rw [List.all_map]
  rfl
def closedUp (l : List Tk) (done : List Bool) (k : Nat) : Prop := ∀ i, i < k → dn done i = true → needsDone l done i = true
def closedB (l : List Tk) (done : List Bool) : Bool := (List.range l.length).all fun i => !(dn done i) || needsDone l done i
theorem closedB_iff {l : List Tk} {done : List Bool} : closedB l done = true ↔ closedUp l done l.length := by
  unfold closedB closedUp
  rw [List.all_eq_true]
  constructor
  · intro h i hi hd
    have := h i (List.mem_range.2 hi)
    rw [hd] at this
    simpa using this
  · intro h i hi
    cases hd : dn done i
    · rfl
    · rw [h i (List.mem_range.1 hi) hd]; rfl
def undoStep (l : List Tk) (r : List Bool) (i : Nat) : List Bool := r.set i (dn r i && needsDone l r i)
def undoF (l : List Tk) (done : List Bool) (task : Nat) (ord : List Nat) : List Bool := ord.foldl (undoStep l) (done.set task false)
theorem undoF_take (l : List Tk) (done : List Bool) (task : Nat) (ord : List Nat) {k : Nat} (h : k < ord.length) : undoF l done task (ord.take (k + 1)) = undoStep l (undoF l done task (ord.take k)) ord[k] := by
  unfold undoF
  rw [List.take_succ_eq_append_getElem h, List.foldl_append]
  rfl
theorem undoF_len (l : List Tk) (done : List Bool) (task : Nat) : ∀ ord, (undoF l done task ord).length = done.length := by
  intro ord
  suffices hs : ∀ (ord : List Nat) (r : List Bool), (ord.foldl (undoStep l) r).length = r.length by
    unfold undoF
    rw [hs, List.length_set]
  intro ord
  induction ord with
  | nil => intro r; rfl
  | cons i t ih => intro r; exact (ih _).trans (List.length_set ..)
def undoE (l : List Tk) (done : List Bool) (task : Int) : Int :=
  if !(validB l && decide (done.length = l.length)) then 1 else if orderE l ≠ 0 then orderE l else if task < 0 ∨ (l.length : Int) ≤ task then 2 else if !(closedB l done && dn done task.toNat) then 5 else 0
def undoV (l : List Tk) (done : List Bool) (task : Int) : List Bool := if undoE l done task = 0 then undoF l done task.toNat (orderL l) else []

end Go.Proofs.Ytejgbfaampllaaa.Tsk
