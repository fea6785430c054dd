/- Working until nothing is ready: its mathematics. -/
import Derived.Test.YtejgbfaampllaaaTskPath
namespace Go.Proofs.Ytejgbfaampllaaa.Tsk

/-- A task that cannot ever be done. -/
def Stuck (l : List Tk) (i : Nat) : Prop := ∃ k, (k = i ∨ Path l i k) ∧ Path l k k
theorem stuck_iff {l : List Tk} {i : Nat} : Stuck l i ↔ Path l i i ∨ ∃ k, Path l i k ∧ Path l k k := by
  constructor
  · rintro ⟨k, rfl | h1, h2⟩
    · exact Or.inl h2
    · exact Or.inr ⟨k, h1, h2⟩
  · rintro (h | ⟨k, h1, h2⟩)
    · exact ⟨i, Or.inl rfl, h⟩
    · exact ⟨k, Or.inr h1, h2⟩
structure WorkP (l : List Tk) (D : List Nat) : Prop where
  nodup : D.Nodup
  lt : ∀ i ∈ D, i < l.length
  free : ∀ i ∈ D, ¬ Stuck l i
theorem WorkP.nil (l : List Tk) : WorkP l [] := ⟨List.nodup_nil, fun _ h => (by cases h), fun _ h => (by cases h)⟩
theorem WorkP.len {l : List Tk} {D : List Nat} (h : WorkP l D) : D.length ≤ l.length := nodup_len _ _ h.nodup h.lt
theorem WorkP.step {l : List Tk} {D : List Nat} (h : WorkP l D) {x : Nat} (hx : x < l.length) (hr : readyB l D x = true) : WorkP l (D ++ [x]) := by
  obtain ⟨h1, h2⟩ := readyB_iff.1 hr
  have hg : Good l D := ⟨h.nodup, h.lt⟩
  have hg2 := hg.snoc hx h1
  refine ⟨hg2.nodup, hg2.lt, fun i hi => ?_⟩
  rcases List.mem_append.1 hi with hi | hi
  · exact h.free i hi
  · rw [List.mem_singleton] at hi
    subst hi
    rintro ⟨k, rfl | hp, hk⟩
    · obtain ⟨j, hj, hj2⟩ := hk.step
      rcases hj2 with rfl | hj2
      · exact h1 (h2 _ hj)
      · exact h.free j (h2 j hj) ⟨j, Or.inl rfl, hj2.trans (.one hj)⟩
    · obtain ⟨j, hj, hj2⟩ := hp.step
      exact h.free j (h2 j hj) ⟨k, hj2.elim (fun e => Or.inl e.symm) Or.inr, hk⟩
theorem WorkP.ends {l : List Tk} {D : List Nat} (hv : validB l = true) (h : WorkP l D) (hr : readyV l (doneOf l.length D) = []) {i : Nat} (hi : i < l.length) : i ∈ D ↔ ¬ Stuck l i := by
  refine ⟨h.free i, fun hs => ?_⟩
  by_cases hm : i ∈ D
  · exact hm
  · exfalso
    unfold readyV at hr
    rw [hv, decide_eq_true (doneOf_len _ _), if_pos (by rfl)] at hr
    have hnr : ∀ q, q < l.length → readyB l D q = false := fun q hq => by
      cases hx : readyB l D q
      · rfl
      · exfalso
        have : q ∈ readyUp l (doneOf l.length D) l.length := List.mem_filter.2 ⟨List.mem_range.2 hq, by rw [rd_doneOf hv hq]; exact hx⟩
        rw [hr] at this
        cases this
    exact hs (comes_round (l := l) (n := l.length) (S := fun i => i < l.length ∧ i ∉ D) (fun i h => h.1) (fun i h => by
      obtain ⟨j, h1, h2⟩ := not_ready (hnr i h.1) h.2
      exact ⟨j, h1, needsAt_lt hv j h1, h2⟩) ⟨hi, hm⟩)
theorem readyV_mem {l : List Tk} (hv : validB l = true) {D : List Nat} {x : Nat} (h : x ∈ readyV l (doneOf l.length D)) : x < l.length ∧ readyB l D x = true := by
  unfold readyV at h
  rw [hv, decide_eq_true (doneOf_len _ _), if_pos (by rfl)] at h
  have h1 := List.mem_filter.1 h
  have h2 := List.mem_range.1 h1.1
  exact ⟨h2, by rw [← rd_doneOf hv h2]; exact h1.2⟩

end Go.Proofs.Ytejgbfaampllaaa.Tsk
