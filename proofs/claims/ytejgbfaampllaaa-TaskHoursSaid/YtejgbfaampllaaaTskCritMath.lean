/- The critical hours: their mathematics. -/
import Derived.Test.YtejgbfaampllaaaTskOrd
namespace Go.Proofs.Ytejgbfaampllaaa.Tsk

/-- All that a task needs stands before it. -/
def Pre (l : List Tk) (ord : List Nat) : Prop := ∀ pre i suf, ord = pre ++ i :: suf → readyB l pre i = true
theorem Pre.nil (l : List Tk) : Pre l [] := by
  intro pre i suf h
  cases pre <;> cases h
theorem Pre.snoc {l : List Tk} {ord : List Nat} (h : Pre l ord) {i : Nat} (hi : readyB l ord i = true) : Pre l (ord ++ [i]) := by
  intro pre j suf he
  rcases List.eq_nil_or_concat suf with rfl | ⟨suf', x, rfl⟩
  · have h2 := List.append_inj' he (by simp)
    obtain ⟨rfl, h3⟩ := h2
    simp only [List.cons.injEq, and_true] at h3
    subst h3
    exact hi
  · have h2 : ord ++ [i] = (pre ++ j :: suf') ++ [x] := by rw [he]; simp
    have h3 := List.append_inj' h2 rfl
    exact h pre j suf' h3.1
theorem grow_pre {l : List Tk} : ∀ f ord, Pre l ord → Pre l (grow l f ord)
  | 0, _, h => h
  | f + 1, ord, h => by
    show Pre l (match nextT l ord with | some i => grow l f (ord ++ [i]) | none => ord)
    cases hn : nextT l ord with
    | none => exact h
    | some i =>
      obtain ⟨_, h2, _⟩ := nextT_spec hn
      exact grow_pre f _ (h.snoc h2)
theorem order_pre (l : List Tk) : Pre l (orderL l) := grow_pre _ _ (Pre.nil l)
theorem order_at {l : List Tk} {k : Nat} (h : k < (orderL l).length) : readyB l ((orderL l).take k) (orderL l)[k] = true := by
  refine order_pre l _ _ ((orderL l).drop (k + 1)) ?_
  rw [List.getElem_cons_drop, List.take_append_drop]

def hoursAt (l : List Tk) (i : Nat) : Int := match l[i]? with | some t => t.hours | none => 0
theorem hoursAt_get {l : List Tk} {i : Nat} (h : i < l.length) : hoursAt l i = l[i].hours := by
  unfold hoursAt
  rw [List.getElem?_eq_getElem h]
/-- The first hour, by the ends of what a task needs. -/
def startOf (ends : List Int) (af : List Nat) : Int := af.foldl (fun s j => max s (ends.getD j 0)) 0
theorem startOf_snoc (ends : List Int) (af : List Nat) (j : Nat) : startOf ends (af ++ [j]) = max (startOf ends af) (ends.getD j 0) := by
  unfold startOf
  rw [List.foldl_append]
  rfl
def critStep (l : List Tk) (p : List Int × Int) (i : Nat) : List Int × Int :=
  (p.1.set i (startOf p.1 (needsAt l i) + hoursAt l i), max p.2 (startOf p.1 (needsAt l i) + hoursAt l i))
def critF (l : List Tk) (ord : List Nat) : List Int × Int := ord.foldl (critStep l) (List.replicate l.length 0, 0)
theorem critF_snoc (l : List Tk) (ord : List Nat) (i : Nat) : critF l (ord ++ [i]) = critStep l (critF l ord) i := by
  unfold critF
  rw [List.foldl_append]
  rfl
theorem critF_take (l : List Tk) (ord : List Nat) {k : Nat} (h : k < ord.length) : critF l (ord.take (k + 1)) = critStep l (critF l (ord.take k)) ord[k] := by
  rw [List.take_succ_eq_append_getElem h, critF_snoc]
def critV (l : List Tk) : Int := if orderE l = 0 then (critF l (orderL l)).2 else 0
theorem startOf_bd {ends : List Int} {B : Int} (hB : 0 ≤ B) (h : ∀ j, 0 ≤ ends.getD j 0 ∧ ends.getD j 0 ≤ B) : ∀ af, 0 ≤ startOf ends af ∧ startOf ends af ≤ B := by
  intro af
  unfold startOf
  suffices hs : ∀ (af : List Nat) (s : Int), 0 ≤ s → s ≤ B → 0 ≤ af.foldl (fun s j => max s (ends.getD j 0)) s ∧ af.foldl (fun s j => max s (ends.getD j 0)) s ≤ B from hs af 0 (Int.le_refl _) hB
  intro af
  induction af with
  | nil => intro s h1 h2; exact ⟨h1, h2⟩
  | cons j t ih =>
    intro s h1 h2
    have := h j
    exact ih (max s (ends.getD j 0)) (by omega) (by omega)
theorem hoursAt_bd {l : List Tk} (hv : validB l = true) (i : Nat) : 0 ≤ hoursAt l i ∧ hoursAt l i ≤ 1000 := by
  unfold hoursAt
  cases h : l[i]? with
  | none => simp
  | some t =>
    have h1 := headB_iff.1 (fineTB_iff.1 ((validB_iff.1 hv).2 t (List.mem_of_getElem? h))).1
    simp only
    omega
theorem critF_len (l : List Tk) : ∀ ord, (critF l ord).1.length = l.length := by
  intro ord
  suffices hs : ∀ (ord : List Nat) (p : List Int × Int), p.1.length = l.length → (ord.foldl (critStep l) p).1.length = l.length from hs ord _ (by simp)
  intro ord
  induction ord with
  | nil => intro p h; exact h
  | cons i t ih => intro p h; exact ih _ (by simp [critStep, h])
theorem getD_set {a : List Int} {i j : Nat} {x : Int} : (a.set i x).getD j 0 = if i = j ∧ i < a.length then x else a.getD j 0 := by
  rw [List.getD_eq_getElem?_getD, List.getD_eq_getElem?_getD, List.getElem?_set]
  by_cases e : i = j
  · subst e
    by_cases hl : i < a.length
    · simp [hl]
    · simp [hl]
  · simp [e]
/-- No end is later than a thousand hours for each task. -/
theorem critF_bd {l : List Tk} (hv : validB l = true) : ∀ ord : List Nat, (∀ j, 0 ≤ (critF l ord).1.getD j 0 ∧ (critF l ord).1.getD j 0 ≤ 1000 * ord.length) ∧ 0 ≤ (critF l ord).2 ∧ (critF l ord).2 ≤ 1000 * ord.length := by
  intro ord
  suffices hs : ∀ k, k ≤ ord.length → (∀ j, 0 ≤ (critF l (ord.take k)).1.getD j 0 ∧ (critF l (ord.take k)).1.getD j 0 ≤ 1000 * k) ∧ 0 ≤ (critF l (ord.take k)).2 ∧ (critF l (ord.take k)).2 ≤ 1000 * k by
    have := hs ord.length (Nat.le_refl _)
    rwa [List.take_length] at this
  intro k
  induction k with
  | zero =>
    intro _
    have e : critF l (ord.take 0) = (List.replicate l.length 0, 0) := rfl
    rw [e]
    refine ⟨fun j => ?_, by simp, by simp⟩
    have : (List.replicate l.length (0 : Int)).getD j 0 = 0 := by
      rw [List.getD_eq_getElem?_getD, List.getElem?_replicate]
      split <;> rfl
    simp only [this]
    omega
  | succ k ih =>
    intro hk
    obtain ⟨h1, h2, h3⟩ := ih (by omega)
    rw [critF_take l ord (by omega)]
    have hb := startOf_bd (B := 1000 * k) (by omega) h1 (needsAt l ord[k])
    have hh := hoursAt_bd hv ord[k]
    refine ⟨fun j => ?_, ?_, ?_⟩
    · show 0 ≤ (List.set _ _ _).getD j 0 ∧ (List.set _ _ _).getD j 0 ≤ _
      rw [getD_set]
      have := h1 j
      split <;> omega
    · show 0 ≤ max _ _
      omega
    · show max _ _ ≤ _
      omega
/-- What is not done yet has no end. -/
theorem critF_zero (l : List Tk) : ∀ (ord : List Nat) (i : Nat), i ∉ ord → (critF l ord).1.getD i 0 = 0 := by
  intro ord i hi
  suffices hs : ∀ k, k ≤ ord.length → (critF l (ord.take k)).1.getD i 0 = 0 by
    have := hs ord.length (Nat.le_refl _)
    rwa [List.take_length] at this
  intro k
  induction k with
  | zero =>
    intro _
    show (List.replicate l.length (0 : Int)).getD i 0 = 0
    rw [List.getD_eq_getElem?_getD, List.getElem?_replicate]
    split <;> rfl
  | succ k ih =>
    intro hk
    rw [critF_take l ord (by omega)]
    show (List.set _ _ _).getD i 0 = 0
    rw [getD_set, if_neg]
    · exact ih (by omega)
    · rintro ⟨e, _⟩
      exact hi (e ▸ List.getElem_mem _)

end Go.Proofs.Ytejgbfaampllaaa.Tsk
