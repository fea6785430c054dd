/- Tasks as values: what makes them valid. -/
namespace Go.Proofs.Ytejgbfaampllaaa

structure Tk where
  hours : Int
  skill : Int
  bay : Bool
  after : List Int
namespace Tsk

/-- The k-th index of a task is fine. -/
def stepB (n : Nat) (a : List Int) (k : Nat) : Bool := decide (0 ≤ a.getD k 0) && decide (a.getD k 0 < (n : Int)) && (decide (k = 0) || decide (a.getD (k - 1) 0 < a.getD k 0))
def fineB (n : Nat) (a : List Int) : Bool := (List.range a.length).all (stepB n a)
def headB (t : Tk) : Bool := decide (1 ≤ t.hours) && decide (t.hours ≤ 1000) && decide (0 ≤ t.skill) && decide (t.skill < 8)
def fineTB (n : Nat) (t : Tk) : Bool := headB t && fineB n t.after
def validB (l : List Tk) : Bool := decide (l.length ≤ 40) && l.all (fineTB l.length)

theorem stepB_iff {n : Nat} {a : List Int} {k : Nat} : stepB n a k = true ↔ 0 ≤ a.getD k 0 ∧ a.getD k 0 < (n : Int) ∧ (k = 0 ∨ a.getD (k - 1) 0 < a.getD k 0) := by
  simp [stepB, and_assoc]
theorem fineB_iff {n : Nat} {a : List Int} : fineB n a = true ↔ ∀ k, k < a.length → stepB n a k = true := by
  simp [fineB, List.all_eq_true]
theorem headB_iff {t : Tk} : headB t = true ↔ 1 ≤ t.hours ∧ t.hours ≤ 1000 ∧ 0 ≤ t.skill ∧ t.skill < 8 := by
  simp [headB, and_assoc]
theorem fineTB_iff {n : Nat} {t : Tk} : fineTB n t = true ↔ headB t = true ∧ fineB n t.after = true := by simp [fineTB]
theorem validB_iff {l : List Tk} : validB l = true ↔ l.length ≤ 40 ∧ ∀ t ∈ l, fineTB l.length t = true := by simp [validB]
theorem getD_get {a : List Int} {k : Nat} (h : k < a.length) : a.getD k 0 = a[k] := by
  rw [List.getD_eq_getElem?_getD, List.getElem?_eq_getElem h]; rfl
/-- Indices that increase are no fewer than their places. -/
theorem fineB_ge {n : Nat} {a : List Int} (h : fineB n a = true) : ∀ k, k < a.length → (k : Int) ≤ a.getD k 0 := by
  intro k
  induction k with
  | zero => intro hk; exact (stepB_iff.1 (fineB_iff.1 h 0 hk)).1
  | succ k ih =>
    intro hk
    have h1 := ih (by omega)
    have h2 := (stepB_iff.1 (fineB_iff.1 h (k + 1) hk)).2.2
    rcases h2 with h2 | h2
    · omega
    · rw [show k + 1 - 1 = k by omega] at h2
      omega
theorem fineB_len {n : Nat} {a : List Int} (h : fineB n a = true) : a.length ≤ n := by
  by_cases h0 : a.length = 0
  · omega
  · have h1 := fineB_ge h (a.length - 1) (by omega)
    have h2 := (stepB_iff.1 (fineB_iff.1 h (a.length - 1) (by omega))).2.1
    omega
/-- What a task needs directly. -/
def needs (t : Tk) : List Nat := t.after.map Int.toNat
theorem needs_lt {n : Nat} {t : Tk} (h : fineTB n t = true) : ∀ j ∈ needs t, j < n := by
  intro j hj
  obtain ⟨x, hx, rfl⟩ := List.mem_map.1 hj
  obtain ⟨k, hk, rfl⟩ := List.getElem_of_mem hx
  have h1 := stepB_iff.1 (fineB_iff.1 (fineTB_iff.1 h).2 k hk)
  rw [getD_get hk] at h1
  omega
def fewB (l : List Tk) : Bool := decide (l.length ≤ 45) && l.all fun t => decide (t.after.length ≤ 45)
theorem fewB_iff {l : List Tk} : fewB l = true ↔ l.length ≤ 45 ∧ ∀ t ∈ l, t.after.length ≤ 45 := by simp [fewB]

end Tsk
end Go.Proofs.Ytejgbfaampllaaa
