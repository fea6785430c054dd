/- What tasks need in the end: mathematics of orders, cycles and states of work. -/
import Derived.Test.YtejgbfaampllaaaTskRefMath
namespace Go.Proofs.Ytejgbfaampllaaa.Tsk

/-- A task needs another one, directly or not. -/
inductive Path (l : List Tk) : Nat → Nat → Prop
  | one {i j : Nat} : j ∈ needsAt l i → Path l i j
  | cons {i j k : Nat} : j ∈ needsAt l i → Path l j k → Path l i k
theorem Path.trans {l : List Tk} {i j k : Nat} (h : Path l i j) (h2 : Path l j k) : Path l i k := by
  induction h with
  | one h => exact .cons h h2
  | cons h _ ih => exact .cons h (ih h2)
theorem Path.step {l : List Tk} {i j : Nat} (h : Path l i j) : ∃ k, k ∈ needsAt l i ∧ (k = j ∨ Path l k j) := by
  cases h with
  | one h => exact ⟨_, h, Or.inl rfl⟩
  | cons h h2 => exact ⟨_, h, Or.inr h2⟩
theorem path_of {l : List Tk} {i j k : Nat} (h : j ∈ needsAt l i) (h2 : j = k ∨ Path l j k) : Path l i k := by
  rcases h2 with rfl | h2
  · exact .one h
  · exact .cons h h2
theorem path_iff {l : List Tk} {i k : Nat} : Path l i k ↔ ∃ j, j ∈ needsAt l i ∧ (j = k ∨ Path l j k) := ⟨Path.step, fun ⟨_, h, h2⟩ => path_of h h2⟩
theorem Path.lt {l : List Tk} (hv : validB l = true) {i j : Nat} (h : Path l i j) : j < l.length := by
  induction h with
  | one h => exact needsAt_lt hv _ h
  | cons _ _ ih => exact ih
theorem needsAt_src {l : List Tk} {i j : Nat} (h : j ∈ needsAt l i) : i < l.length := by
  unfold needsAt at h
  cases he : l[i]? with
  | none => rw [he] at h; cases h
  | some t => exact (List.getElem?_eq_some_iff.1 he).1
theorem Path.src {l : List Tk} {i j : Nat} (h : Path l i j) : i < l.length := by
  obtain ⟨k, h1, _⟩ := h.step
  exact needsAt_src h1

/-- Whoever always has something more to walk to comes round. -/
theorem walk_on {l : List Tk} {n : Nat} {S : Nat → Prop} (hS : ∀ i, S i → i < n) (hn : ∀ i, S i → ∃ j, j ∈ needsAt l i ∧ S j) :
    ∀ (f : Nat) (vis : List Nat) (cur : Nat), n ≤ vis.length + f → vis.Nodup → (∀ v ∈ vis, v < n) → S cur → (∀ v ∈ vis, Path l v cur) → ∃ k, (k = cur ∨ Path l cur k) ∧ Path l k k
  | 0, vis, cur, h1, h2, h3, h4, h5 => by
    by_cases hm : cur ∈ vis
    · exact ⟨cur, Or.inl rfl, h5 cur hm⟩
    · have := nodup_len n (cur :: vis) (List.nodup_cons.2 ⟨hm, h2⟩) (fun i hi => by
        rcases List.mem_cons.1 hi with rfl | hi
        · exact hS _ h4
        · exact h3 i hi)
      rw [List.length_cons] at this
      omega
  | f + 1, vis, cur, h1, h2, h3, h4, h5 => by
    by_cases hm : cur ∈ vis
    · exact ⟨cur, Or.inl rfl, h5 cur hm⟩
    · obtain ⟨j, hj, hjS⟩ := hn cur h4
      obtain ⟨k, hk, hkk⟩ := walk_on hS hn f (cur :: vis) j (by rw [List.length_cons]; omega) (List.nodup_cons.2 ⟨hm, h2⟩) (fun i hi => by
        rcases List.mem_cons.1 hi with rfl | hi
        · exact hS _ h4
        · exact h3 i hi) hjS (fun v hv => by
        rcases List.mem_cons.1 hv with rfl | hv
        · exact .one hj
        · exact (h5 v hv).trans (.one hj))
      refine ⟨k, Or.inr ?_, hkk⟩
      rcases hk with rfl | hk
      · exact .one hj
      · exact .cons hj hk
theorem comes_round {l : List Tk} {n : Nat} {S : Nat → Prop} (hS : ∀ i, S i → i < n) (hn : ∀ i, S i → ∃ j, j ∈ needsAt l i ∧ S j) {i : Nat} (hi : S i) : ∃ k, (k = i ∨ Path l i k) ∧ Path l k k :=
  walk_on hS hn n [] i (by simp) List.nodup_nil (by simp) hi (by simp)

theorem full_mem {n : Nat} {ord : List Nat} (h1 : ord.Nodup) (h2 : ∀ i ∈ ord, i < n) (h3 : n ≤ ord.length) {i : Nat} (hi : i < n) : i ∈ ord := by
  by_cases hm : i ∈ ord
  · exact hm
  · have := nodup_len n (i :: ord) (List.nodup_cons.2 ⟨hm, h1⟩) (fun j hj => by
      rcases List.mem_cons.1 hj with rfl | hj
      · exact hi
      · exact h2 j hj)
    rw [List.length_cons] at this
    omega
theorem order_path {l : List Tk} {i j : Nat} (hp : Path l i j) : ∀ k, (hk : k < (orderL l).length) → (orderL l)[k] = i → j ∈ (orderL l).take k := by
  induction hp with
  | one h =>
    intro k hk he
    have h1 := (readyB_iff.1 (order_at hk)).2
    rw [he] at h1
    exact h1 _ h
  | cons h _ ih =>
    intro k hk he
    have h1 := (readyB_iff.1 (order_at hk)).2
    rw [he] at h1
    obtain ⟨q, hq, hq2⟩ := List.getElem_of_mem (h1 _ h)
    rw [List.length_take] at hq
    rw [List.getElem_take] at hq2
    have h2 := ih q (by omega) hq2
    have h3 : (orderL l).take q = ((orderL l).take k).take q := by rw [List.take_take, Nat.min_eq_left (by omega)]
    rw [h3] at h2
    exact List.mem_of_mem_take h2
theorem order_acyclic {l : List Tk} {i : Nat} (hi : i ∈ orderL l) : ¬ Path l i i := by
  intro hp
  obtain ⟨k, hk, rfl⟩ := List.getElem_of_mem hi
  exact (readyB_iff.1 (order_at hk)).1 (order_path hp k hk rfl)
theorem grow_end (l : List Tk) : ∀ f ord, nextT l (grow l f ord) = none ∨ (grow l f ord).length = ord.length + f
  | 0, ord => Or.inr rfl
  | f + 1, ord => by
    show nextT l (match nextT l ord with | some i => grow l f (ord ++ [i]) | none => ord) = none ∨ List.length (match nextT l ord with | some i => grow l f (ord ++ [i]) | none => ord) = _
    cases hn : nextT l ord with
    | none => exact Or.inl hn
    | some i =>
      rcases grow_end l f (ord ++ [i]) with h | h
      · exact Or.inl h
      · refine Or.inr ?_
        simp only
        rw [h, List.length_append, List.length_singleton]
        omega
theorem nextT_none_iff {l : List Tk} {ord : List Nat} (h : nextT l ord = none) {i : Nat} (hi : i < l.length) : readyB l ord i = false := by
  unfold nextT at h
  rw [List.find?_eq_none] at h
  have := h i (List.mem_range.2 hi)
  simpa using this
theorem not_ready {l : List Tk} {ord : List Nat} {i : Nat} (h : readyB l ord i = false) (hi : i ∉ ord) : ∃ j, j ∈ needsAt l i ∧ j ∉ ord := by
  by_cases hx : ∃ j, j ∈ needsAt l i ∧ j ∉ ord
  · exact hx
  · have : readyB l ord i = true := readyB_iff.2 ⟨hi, fun j hj => by
      by_cases hm : j ∈ ord
      · exact hm
      · exact absurd ⟨j, hj, hm⟩ hx⟩
    rw [h] at this; cases this
/-- There is an order exactly if no task needs itself. -/
theorem cyc_iff {l : List Tk} (hv : validB l = true) : (orderL l).length < l.length ↔ ∃ i, i < l.length ∧ Path l i i := by
  constructor
  · intro h
    have hn : nextT l (orderL l) = none := by
      rcases grow_end l l.length [] with h1 | h1
      · exact h1
      · exfalso
        have : (orderL l).length = 0 + l.length := h1
        omega
    have hS : ∃ i, i < l.length ∧ i ∉ orderL l := by
      by_cases hx : ∃ i, i < l.length ∧ i ∉ orderL l
      · exact hx
      · exfalso
        have hsub : ∀ i, i < l.length → i ∈ orderL l := fun i hi => by
          by_cases hm : i ∈ orderL l
          · exact hm
          · exact absurd ⟨i, hi, hm⟩ hx
        have : ∀ (xs ys : List Nat), xs.Nodup → (∀ x ∈ xs, x ∈ ys) → xs.length ≤ ys.length := by
          intro xs
          induction xs with
          | nil => intro ys _ _; simp
          | cons x t ih =>
            intro ys h1 h2
            have hx := h2 x List.mem_cons_self
            have h3 := ih (ys.erase x) (List.nodup_cons.1 h1).2 (fun y hy => by
              have hne : y ≠ x := fun e => (List.nodup_cons.1 h1).1 (e ▸ hy)
              exact (List.mem_erase_of_ne hne).2 (h2 y (List.mem_cons_of_mem _ hy)))
            rw [List.length_erase_of_mem hx] at h3
            have : 0 < ys.length := List.length_pos_of_mem hx
            rw [List.length_cons]
            omega
        have h4 := this (List.range l.length) (orderL l) List.nodup_range (fun x hx => hsub x (List.mem_range.1 hx))
        rw [List.length_range] at h4
        omega
    obtain ⟨i, hi⟩ := hS
    obtain ⟨k, _, hk⟩ := comes_round (l := l) (n := l.length) (S := fun i => i < l.length ∧ i ∉ orderL l) (fun i h => h.1) (fun i h => by
      obtain ⟨j, h1, h2⟩ := not_ready (nextT_none_iff hn h.1) h.2
      exact ⟨j, h1, needsAt_lt hv j h1, h2⟩) hi
    exact ⟨k, hk.src, hk⟩
  · rintro ⟨i, hi, hp⟩
    have hg := order_good l
    by_cases h : (orderL l).length < l.length
    · exact h
    · exact absurd hp (order_acyclic (full_mem hg.nodup hg.lt (by omega) hi))

/-- What is left when a task is undone. -/
theorem undoF_spec {l : List Tk} {done : List Bool} {task : Nat} (hd : done.length = l.length) (hc : closedUp l done l.length) (hfull : (orderL l).length = l.length) :
    ∀ k, k ≤ (orderL l).length → ∀ x, x < l.length → (dn (undoF l done task ((orderL l).take k)) x = true ↔ dn done x = true ∧ x ≠ task ∧ (x ∈ (orderL l).take k → ¬ Path l x task)) := by
  intro k
  induction k with
  | zero =>
    intro _ x hx
    have e : undoF l done task ((orderL l).take 0) = done.set task false := rfl
    rw [e]
    have hx2 : x < (done.set task false).length := by rw [List.length_set]; omega
    rw [dn_get hx2, List.getElem_set]
    by_cases ht : task = x
    · subst ht
      simp
    · rw [if_neg ht, dn_get (by omega)]
      constructor
      · intro h; exact ⟨h, fun e => ht e.symm, fun h => by simp at h⟩
      · intro h; exact h.1
  | succ k ih =>
    intro hk x hx
    have hk' : k < (orderL l).length := by omega
    have ih := ih (by omega)
    rw [undoF_take l done task (orderL l) hk']
    obtain ⟨r, hr⟩ : ∃ r, r = undoF l done task ((orderL l).take k) := ⟨_, rfl⟩
    rw [← hr] at ih ⊢
    have hrl : r.length = l.length := by rw [hr, undoF_len, hd]
    obtain ⟨i, hi⟩ : ∃ i, i = (orderL l)[k] := ⟨_, rfl⟩
    rw [← hi]
    have hil : i < l.length := by rw [hi]; exact (order_good l).lt _ (List.getElem_mem _)
    have hrd := readyB_iff.1 (order_at hk')
    rw [← hi] at hrd
    have hmem : ∀ y, y ∈ (orderL l).take (k + 1) ↔ y ∈ (orderL l).take k ∨ y = i := by
      intro y
      rw [List.take_succ_eq_append_getElem hk', List.mem_append, List.mem_singleton, ← hi]
    unfold undoStep
    have hx2 : x < (r.set i (dn r i && needsDone l r i)).length := by rw [List.length_set]; omega
    rw [dn_get hx2, List.getElem_set]
    by_cases hix : i = x
    · subst hix
      rw [if_pos rfl, Bool.and_eq_true, ih i hil, hmem]
      unfold needsDone
      rw [List.all_eq_true]
      constructor
      · rintro ⟨⟨h1, h2, _⟩, h3⟩
        refine ⟨h1, h2, fun _ hp => ?_⟩
        obtain ⟨j, hj, hj2⟩ := hp.step
        have h4 := (ih j (by have := (order_good l).lt j (List.mem_of_mem_take (hrd.2 j hj)); exact this)).1 (h3 j hj)
        rcases hj2 with rfl | hj2
        · exact h4.2.1 rfl
        · exact h4.2.2 (hrd.2 j hj) hj2
      · rintro ⟨h1, h2, h3⟩
        refine ⟨⟨h1, h2, fun hm => absurd hm hrd.1⟩, fun j hj => ?_⟩
        have hjl := (order_good l).lt j (List.mem_of_mem_take (hrd.2 j hj))
        have hcl := List.all_eq_true.1 (hc i hil h1) j hj
        exact (ih j hjl).2 ⟨hcl, fun e => h3 (Or.inr rfl) (path_of hj (Or.inl e)), fun _ hp => h3 (Or.inr rfl) (path_of hj (Or.inr hp))⟩
    · rw [if_neg hix, ← dn_get (by omega : x < r.length), ih x hx, hmem]
      constructor
      · rintro ⟨h1, h2, h3⟩
        exact ⟨h1, h2, fun hm => h3 (hm.elim id (fun e => absurd e.symm hix))⟩
      · rintro ⟨h1, h2, h3⟩
        exact ⟨h1, h2, fun hm => h3 (Or.inl hm)⟩
theorem undoE_zero {l : List Tk} {done : List Bool} {task : Int} (h : undoE l done task = 0) : validB l = true ∧ done.length = l.length ∧ orderE l = 0 ∧ 0 ≤ task ∧ task < (l.length : Int) ∧ closedB l done = true ∧ dn done task.toNat = true := by
  unfold undoE at h
  split at h
  · cases h
  · rename_i h1
    split at h
    · rename_i h2; exact absurd h h2
    · rename_i h2
      split at h
      · cases h
      · rename_i h3
        split at h
        · cases h
        · rename_i h4
          simp only [Bool.not_eq_true, Bool.not_eq_false', Bool.and_eq_true, decide_eq_true_eq] at h1 h4
          exact ⟨h1.1, h1.2, by omega, by omega, by omega, h4.1, h4.2⟩
theorem undoE_yes {l : List Tk} {done : List Bool} {task : Nat} (h1 : validB l = true) (h2 : done.length = l.length) (h3 : orderE l = 0) (h4 : task < l.length) (h5 : closedB l done = true) (h6 : dn done task = true) : undoE l done task = 0 := by
  unfold undoE
  rw [h1, decide_eq_true h2, h3, if_neg (by simp), if_neg (by simp), if_neg (by omega), h5, Int.toNat_natCast, h6]
  rfl
theorem orderE_full {l : List Tk} (h : orderE l = 0) : validB l = true ∧ (orderL l).length = l.length := by
  unfold orderE at h
  cases hv : validB l
  · rw [hv] at h; simp at h
  · rw [hv, if_pos rfl] at h
    by_cases hl : (orderL l).length < l.length
    · rw [if_pos hl] at h; simp at h
    · have := (order_good l).len
      exact ⟨rfl, by omega⟩
theorem undo_spec {l : List Tk} {done : List Bool} {task : Nat} (h : undoE l done task = 0) : (undoV l done task).length = l.length ∧ ∀ x, x < l.length → (dn (undoV l done task) x = true ↔ dn done x = true ∧ x ≠ task ∧ ¬ Path l x task) := by
  obtain ⟨hv, hd, ho, _, _, hc, _⟩ := undoE_zero h
  have hfull := (orderE_full ho).2
  have e : undoV l done task = undoF l done task ((orderL l).take (orderL l).length) := by
    unfold undoV
    rw [if_pos h, List.take_length]
    rfl
  refine ⟨by rw [e, undoF_len, hd], fun x hx => ?_⟩
  rw [e, undoF_spec hd (closedB_iff.1 hc) hfull _ (Nat.le_refl _) x hx, List.take_length]
  have hm := full_mem (order_good l).nodup (order_good l).lt (by omega) hx
  exact ⟨fun ⟨h1, h2, h3⟩ => ⟨h1, h2, h3 hm⟩, fun ⟨h1, h2, h3⟩ => ⟨h1, h2, fun _ => h3⟩⟩
theorem dn_ext {a b : List Bool} (h : a.length = b.length) (h2 : ∀ x, x < a.length → (dn a x = true ↔ dn b x = true)) : a = b := by
  apply List.ext_getElem h
  intro i h3 h4
  have := h2 i h3
  rw [dn_get h3, dn_get h4] at this
  exact Bool.eq_iff_iff.2 this

end Go.Proofs.Ytejgbfaampllaaa.Tsk
