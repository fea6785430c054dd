/- What the reference marks as gone: its mathematics. -/
import Derived.Test.YtejgbfaampllaaaTskPath
namespace Go.Proofs.Ytejgbfaampllaaa.Tsk

theorem dn_set {G : List Bool} {i x : Nat} {v : Bool} : dn (G.set i v) x = if i = x ∧ i < G.length then v else dn G x := by
  unfold dn
  rw [List.getD_eq_getElem?_getD, List.getD_eq_getElem?_getD, List.getElem?_set]
  by_cases e : i = x
  · subst e
    by_cases hl : i < G.length
    · simp [hl]
    · simp [hl]
  · simp [e]
theorem dn_replicate (n x : Nat) : dn (List.replicate n false) x = false := by
  unfold dn
  rw [List.getD_eq_getElem?_getD, List.getElem?_replicate]
  split <;> rfl
def Goes (l : List Tk) (task x : Nat) : Prop := x = task ∨ Path l x task
/-- What holds while the tasks that need one are marked. -/
structure GoneP (l : List Tk) (task n r i k : Nat) (G : List Bool) : Prop where
  len : G.length = n
  sound : ∀ x, dn G x = true → Goes l task x
  self : dn G task = true
  before : ∀ q x, q < r → (orderL l)[q]? = some x → Goes l task x → dn G x = true
  row : ∀ x, (orderL l)[r]? = some x → x < i → Goes l task x → dn G x = true
  cur : (orderL l)[r]? = some i → ∀ q x, q < k → (needsAt l i)[q]? = some x → Goes l task x → dn G i = true
theorem GoneP.start {l : List Tk} {task n : Nat} (h : task < n) : GoneP l task n 0 0 0 ((List.replicate n false).set task true) := by
  refine ⟨by simp, fun x hx => ?_, ?_, fun q x hq => by omega, fun x _ hx => by omega, fun _ q x hq => by omega⟩
  · rw [dn_set, dn_replicate] at hx
    by_cases e : task = x ∧ task < (List.replicate n false).length
    · exact Or.inl e.1.symm
    · rw [if_neg e] at hx; cases hx
  · rw [dn_set, if_pos ⟨rfl, by simpa using h⟩]
theorem GoneP.step {l : List Tk} {task n r i k : Nat} {G : List Bool} (h : GoneP l task n r i k G) (hi : i < n) {y : Nat} (hy : (needsAt l i)[k]? = some y) : GoneP l task n r i (k + 1) (G.set i (dn G i || dn G y)) := by
  have hmono : ∀ x, dn G x = true → dn (G.set i (dn G i || dn G y)) x = true := fun x hx => by
    rw [dn_set]
    split
    · rename_i e
      rw [e.1, hx]; rfl
    · exact hx
  have hil : i < G.length := by rw [h.len]; exact hi
  refine ⟨by rw [List.length_set]; exact h.len, fun x hx => ?_, hmono _ h.self, fun q x h1 h2 h3 => hmono _ (h.before q x h1 h2 h3), fun x h1 h2 h3 => hmono _ (h.row x h1 h2 h3), fun h1 q x h2 h3 h4 => ?_⟩
  · rw [dn_set] at hx
    by_cases e : i = x ∧ i < G.length
    · rw [if_pos e] at hx
      obtain ⟨rfl, _⟩ := e
      cases hg : dn G i
      · rw [hg] at hx
        have hgy : dn G y = true := by simpa using hx
        exact Or.inr (path_of (List.mem_of_getElem? hy) (h.sound y hgy))
      · exact h.sound i hg
    · rw [if_neg e] at hx
      exact h.sound x hx
  · rw [dn_set, if_pos ⟨rfl, hil⟩]
    by_cases hq : q < k
    · rw [h.cur h1 q x hq h3 h4]; rfl
    · obtain rfl : q = k := by omega
      rw [hy] at h3
      obtain rfl := Option.some.inj h3
      obtain ⟨hr, hre⟩ := List.getElem?_eq_some_iff.1 h1
      have hrd := (readyB_iff.1 (order_at hr)).2 y (by rw [hre]; exact List.mem_of_getElem? hy)
      obtain ⟨p, hp, hpe⟩ := List.getElem_of_mem hrd
      rw [List.length_take] at hp
      rw [List.getElem_take] at hpe
      have : (orderL l)[p]? = some y := by rw [List.getElem?_eq_getElem (by omega), hpe]
      rw [h.before p y (by omega) this h4]
      simp
theorem GoneP.next {l : List Tk} {task n r i : Nat} {G : List Bool} (h : GoneP l task n r i (needsAt l i).length G) : GoneP l task n r (i + 1) 0 G := by
  refine ⟨h.len, h.sound, h.self, h.before, fun x h1 h2 h3 => ?_, fun _ q x hq => by omega⟩
  by_cases e : x = i
  · subst e
    rcases h3 with rfl | hp
    · exact h.self
    · obtain ⟨j, hj, hj2⟩ := hp.step
      obtain ⟨q, hq, hqe⟩ := List.getElem_of_mem hj
      exact h.cur h1 q j hq (by rw [List.getElem?_eq_getElem hq, hqe]) hj2
  · exact h.row x h1 (by omega) h3
theorem GoneP.round {l : List Tk} {task n r : Nat} {G : List Bool} (hn : n = l.length) (h : GoneP l task n r n 0 G) : GoneP l task n (r + 1) 0 0 G := by
  refine ⟨h.len, h.sound, h.self, fun q x h1 h2 h3 => ?_, fun x _ hx => by omega, fun _ q x hq => by omega⟩
  by_cases e : q = r
  · subst e
    exact h.row x h2 (by rw [hn]; exact (order_good l).lt x (List.mem_of_getElem? h2)) h3
  · exact h.before q x (by omega) h2 h3
theorem GoneP.ends {l : List Tk} {task n : Nat} {G : List Bool} (hn : n = l.length) (hfull : (orderL l).length = l.length) (h : GoneP l task n n 0 0 G) {x : Nat} (hx : x < n) : dn G x = true ↔ Goes l task x := by
  refine ⟨h.sound x, fun hg => ?_⟩
  have hm := full_mem (order_good l).nodup (order_good l).lt (by omega) (by omega : x < l.length)
  obtain ⟨q, hq, hqe⟩ := List.getElem_of_mem hm
  exact h.before q x (by omega) (by rw [List.getElem?_eq_getElem hq, hqe]) hg
/-- The result so far. -/
def outUp (n k : Nat) (f : Nat → Bool) : List Bool := (List.range n).map fun x => decide (x < k) && f x
theorem outUp_len (n k : Nat) (f : Nat → Bool) : (outUp n k f).length = n := by simp [outUp]
theorem outUp_zero (n : Nat) (f : Nat → Bool) : outUp n 0 f = List.replicate n false := by
  apply List.ext_getElem
  · simp [outUp]
  · intro i h1 h2
    simp [outUp]
theorem outUp_succ {n k : Nat} (f : Nat → Bool) : (outUp n k f).set k (f k) = outUp n (k + 1) f := by
  apply List.ext_getElem
  · simp [outUp]
  · intro i h1 h2
    simp only [outUp, List.getElem_set, List.getElem_map, List.getElem_range]
    by_cases e : k = i
    · subst e; simp
    · rw [if_neg e]
      have : decide (i < k) = decide (i < k + 1) := by
        rw [Bool.eq_iff_iff, decide_eq_true_eq, decide_eq_true_eq]
        omega
      rw [this]
theorem dn_outUp {n k x : Nat} (f : Nat → Bool) (hx : x < n) : dn (outUp n k f) x = (decide (x < k) && f x) := by
  rw [dn_get (by rw [outUp_len]; exact hx)]
  simp [outUp]
theorem gone_undo {l : List Tk} {done : List Bool} {task n : Nat} {G : List Bool} (hn : n = l.length) (h : undoE l done task = 0) (hg : GoneP l task n n 0 0 G) : outUp n n (fun x => dn done x && !(dn G x)) = undoV l done task := by
  obtain ⟨h1, h2⟩ := undo_spec h
  obtain ⟨hv, hd, ho, _, _, hc, _⟩ := undoE_zero h
  refine dn_ext (by rw [outUp_len, h1, hn]) fun x hx => ?_
  rw [outUp_len] at hx
  rw [dn_outUp _ hx, decide_eq_true hx, h2 x (by omega), Bool.true_and, Bool.and_eq_true]
  have hgo := hg.ends hn (orderE_full ho).2 hx
  constructor
  · rintro ⟨h3, h4⟩
    have h5 : ¬ Goes l task x := fun hh => by rw [hgo.2 hh] at h4; cases h4
    exact ⟨h3, fun e => h5 (Or.inl e), fun e => h5 (Or.inr e)⟩
  · rintro ⟨h3, h4, h5⟩
    refine ⟨h3, ?_⟩
    cases h6 : dn G x
    · rfl
    · exact ((hgo.1 h6).elim h4 h5).elim

end Go.Proofs.Ytejgbfaampllaaa.Tsk
