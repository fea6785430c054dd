/- What undoing leaves: the mathematics of the statement. -/
import Derived.Test.YtejgbfaampllaaaTskPath
namespace Go.Proofs.Ytejgbfaampllaaa.Tsk

/-- What is left is closed again. -/
theorem undo_closed {l : List Tk} {done : List Bool} {task : Nat} (h : undoE l done task = 0) : closedB l (undoV l done task) = true := by
  obtain ⟨h1, h2⟩ := undo_spec h
  obtain ⟨hv, hd, ho, _, _, hc, _⟩ := undoE_zero h
  refine closedB_iff.2 fun i hi hx => ?_
  have h3 := (h2 i hi).1 hx
  unfold needsDone
  refine List.all_eq_true.2 fun j hj => ?_
  have hjl := needsAt_lt hv j hj
  have h4 := List.all_eq_true.1 (closedB_iff.1 hc i hi h3.1) j hj
  exact (h2 j hjl).2 ⟨h4, fun e => h3.2.2 (path_of hj (Or.inl e)), fun hp => h3.2.2 (path_of hj (Or.inr hp))⟩
/-- The task is ready again. -/
theorem undo_ready {l : List Tk} {done : List Bool} {task : Nat} (h : undoE l done task = 0) : task ∈ readyV l (undoV l done task) := by
  obtain ⟨h1, h2⟩ := undo_spec h
  obtain ⟨hv, hd, ho, _, ht, hc, hdt⟩ := undoE_zero h
  rw [Int.toNat_natCast] at hdt
  have htl : task < l.length := by omega
  have hfull := (orderE_full ho).2
  have hac : ∀ i, i < l.length → ¬ Path l i i := fun i hi => order_acyclic (full_mem (order_good l).nodup (order_good l).lt (by omega) hi)
  unfold readyV
  rw [hv, decide_eq_true h1, if_pos (by rfl)]
  unfold readyUp
  refine List.mem_filter.2 ⟨List.mem_range.2 htl, ?_⟩
  unfold rdB
  have h3 : dn (undoV l done task) task = false := by
    cases hx : dn (undoV l done task) task
    · rfl
    · exact absurd rfl ((h2 task htl).1 hx).2.1
  rw [h3]
  simp only [Bool.not_false, Bool.true_and]
  unfold needsDone
  refine List.all_eq_true.2 fun j hj => ?_
  have hjl := needsAt_lt hv j hj
  have h4 := List.all_eq_true.1 (closedB_iff.1 hc task htl hdt) j hj
  refine (h2 j hjl).2 ⟨h4, fun e => hac task htl (.one (e ▸ hj)), fun hp => hac task htl (.cons hj hp)⟩
/-- The order in which two tasks are undone makes no difference. -/
theorem undo_two {l : List Tk} {done : List Bool} {a b : Nat} (ha : undoE l done a = 0) (hb : undoE l done b = 0) (hx : dn (undoV l done a) b = true) (hy : dn (undoV l done b) a = true) :
    undoE l (undoV l done a) b = 0 ∧ undoE l (undoV l done b) a = 0 ∧ undoV l (undoV l done a) b = undoV l (undoV l done b) a := by
  obtain ⟨a1, a2⟩ := undo_spec ha
  obtain ⟨b1, b2⟩ := undo_spec hb
  obtain ⟨hv, hd, ho, _, hta, hc, hda⟩ := undoE_zero ha
  obtain ⟨_, _, _, _, htb, _, hdb⟩ := undoE_zero hb
  have e1 : undoE l (undoV l done a) b = 0 := undoE_yes hv a1 ho (by omega) (undo_closed ha) hx
  have e2 : undoE l (undoV l done b) a = 0 := undoE_yes hv b1 ho (by omega) (undo_closed hb) hy
  refine ⟨e1, e2, ?_⟩
  obtain ⟨c1, c2⟩ := undo_spec e1
  obtain ⟨d1, d2⟩ := undo_spec e2
  refine dn_ext (by omega) fun x hx => ?_
  rw [c1] at hx
  rw [c2 x hx, d2 x hx, a2 x hx, b2 x hx]
  constructor
  · rintro ⟨⟨h1, h2, h3⟩, h4, h5⟩; exact ⟨⟨h1, h4, h5⟩, h2, h3⟩
  · rintro ⟨⟨h1, h2, h3⟩, h4, h5⟩; exact ⟨⟨h1, h4, h5⟩, h2, h3⟩

end Go.Proofs.Ytejgbfaampllaaa.Tsk
