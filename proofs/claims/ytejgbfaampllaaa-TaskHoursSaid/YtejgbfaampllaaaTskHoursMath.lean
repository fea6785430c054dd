/- The critical hours and one more thing to wait for: their mathematics. -/
import Derived.Test.YtejgbfaampllaaaTskCopy
import Derived.Test.YtejgbfaampllaaaTskPath
namespace Go.Proofs.Ytejgbfaampllaaa
namespace Tsk

theorem startOf_ge {ends : List Int} : ∀ (af : List Nat) (s : Int), s ≤ af.foldl (fun s j => max s (ends.getD j 0)) s ∧ ∀ j ∈ af, ends.getD j 0 ≤ af.foldl (fun s j => max s (ends.getD j 0)) s := by
  intro af
  induction af with
  | nil => intro s; exact ⟨Int.le_refl _, fun _ h => by cases h⟩
  | cons x t ih =>
    intro s
    have h := ih (max s (ends.getD x 0))
    refine ⟨Int.le_trans (by omega) h.1, fun j hj => ?_⟩
    rcases List.mem_cons.1 hj with rfl | hj
    · exact Int.le_trans (by omega) h.1
    · exact h.2 j hj
theorem startOf_mem {ends : List Int} {af : List Nat} {j : Nat} (h : j ∈ af) : ends.getD j 0 ≤ startOf ends af := (startOf_ge af 0).2 j h
theorem startOf_pos (ends : List Int) (af : List Nat) : 0 ≤ startOf ends af := (startOf_ge af 0).1
theorem startOf_le {ends : List Int} {M : Int} : ∀ (af : List Nat) (s : Int), s ≤ M → (∀ j ∈ af, ends.getD j 0 ≤ M) → af.foldl (fun s j => max s (ends.getD j 0)) s ≤ M := by
  intro af
  induction af with
  | nil => intro s h _; exact h
  | cons x t ih =>
    intro s h1 h2
    have := h2 x List.mem_cons_self
    exact ih (max s (ends.getD x 0)) (by omega) fun j hj => h2 j (List.mem_cons_of_mem _ hj)
theorem startOf_congr {e1 e2 : List Int} : ∀ (af : List Nat) (s : Int), (∀ j ∈ af, e1.getD j 0 = e2.getD j 0) → af.foldl (fun s j => max s (e1.getD j 0)) s = af.foldl (fun s j => max s (e2.getD j 0)) s := by
  intro af
  induction af with
  | nil => intro s _; rfl
  | cons x t ih =>
    intro s h
    show t.foldl _ (max s (e1.getD x 0)) = t.foldl _ (max s (e2.getD x 0))
    rw [h x List.mem_cons_self]
    exact ih _ fun j hj => h j (List.mem_cons_of_mem _ hj)
def endOf (l : List Tk) (i : Nat) : Int := (critF l (orderL l)).1.getD i 0
/-- An end does not change any more. -/
theorem ends_keep {l : List Tk} {j : Nat} : ∀ k q, k ≤ q → q ≤ (orderL l).length → j ∈ (orderL l).take k → (critF l ((orderL l).take q)).1.getD j 0 = (critF l ((orderL l).take k)).1.getD j 0 := by
  intro k q hkq
  induction q with
  | zero => intro _ _; obtain rfl : k = 0 := by omega
            rfl
  | succ q ih =>
    intro hq hj
    by_cases e : k = q + 1
    · subst e; rfl
    · rw [critF_take l _ (by omega)]
      show (List.set _ _ _).getD j 0 = _
      rw [getD_set, if_neg]
      · exact ih (by omega) (by omega) hj
      · rintro ⟨he, _⟩
        have h1 := (readyB_iff.1 (order_at (by omega : q < (orderL l).length))).1
        rw [he] at h1
        have h2 : (orderL l).take k = ((orderL l).take q).take k := by rw [List.take_take, Nat.min_eq_left (by omega)]
        rw [h2] at hj
        exact h1 (List.mem_of_mem_take hj)
theorem end_at {l : List Tk} {k : Nat} (hk : k < (orderL l).length) : endOf l (orderL l)[k] = startOf (critF l ((orderL l).take k)).1 (needsAt l (orderL l)[k]) + hoursAt l (orderL l)[k] := by
  have h1 := ends_keep (l := l) (j := (orderL l)[k]) (k + 1) (orderL l).length (by omega) (Nat.le_refl _) (by rw [List.take_succ_eq_append_getElem hk]; exact List.mem_append_right _ (List.mem_singleton.2 rfl))
  rw [List.take_length] at h1
  unfold endOf
  rw [h1, critF_take l _ hk]
  show (List.set _ _ _).getD _ 0 = _
  rw [getD_set, if_pos]
  refine ⟨rfl, ?_⟩
  rw [critF_len]
  exact (order_good l).lt _ (List.getElem_mem _)
theorem end_step {l : List Tk} {i : Nat} (hi : i ∈ orderL l) : endOf l i = startOf (critF l (orderL l)).1 (needsAt l i) + hoursAt l i := by
  obtain ⟨k, hk, rfl⟩ := List.getElem_of_mem hi
  rw [end_at hk]
  congr 1
  refine startOf_congr _ 0 fun j hj => ?_
  have h1 := (readyB_iff.1 (order_at hk)).2 j hj
  have h2 := ends_keep k (orderL l).length (by omega) (Nat.le_refl _) h1
  rw [List.take_length] at h2
  exact h2.symm
theorem end_need {l : List Tk} {i j : Nat} (hi : i ∈ orderL l) (hj : j ∈ needsAt l i) : endOf l j + hoursAt l i ≤ endOf l i := by
  rw [end_step hi]
  have := startOf_mem (ends := (critF l (orderL l)).1) hj
  unfold endOf
  omega
theorem end_hours {l : List Tk} {i : Nat} (hi : i ∈ orderL l) : hoursAt l i ≤ endOf l i := by
  rw [end_step hi]
  have := startOf_pos (critF l (orderL l)).1 (needsAt l i)
  omega
/-- The most is the greatest end. -/
theorem most_ge {l : List Tk} : ∀ k, k ≤ (orderL l).length → ∀ i, i ∈ (orderL l).take k → endOf l i ≤ (critF l ((orderL l).take k)).2 := by
  intro k
  induction k with
  | zero => intro _ i hi; simp at hi
  | succ k ih =>
    intro hk i hi
    rw [critF_take l _ (by omega)]
    show _ ≤ max _ _
    rw [← end_at (by omega : k < (orderL l).length)]
    rw [List.take_succ_eq_append_getElem (by omega), List.mem_append, List.mem_singleton] at hi
    rcases hi with hi | rfl
    · have := ih (by omega) i hi; omega
    · omega
theorem most_le {l : List Tk} {M : Int} (hM : 0 ≤ M) : ∀ k, k ≤ (orderL l).length → (∀ i ∈ (orderL l).take k, endOf l i ≤ M) → (critF l ((orderL l).take k)).2 ≤ M := by
  intro k
  induction k with
  | zero => intro _ _; exact hM
  | succ k ih =>
    intro hk h
    rw [critF_take l _ (by omega)]
    show max _ _ ≤ _
    rw [← end_at (by omega : k < (orderL l).length)]
    rw [List.take_succ_eq_append_getElem (by omega)] at h
    have h1 := ih (by omega) fun i hi => h i (List.mem_append_left _ hi)
    have h2 := h (orderL l)[k] (List.mem_append_right _ (List.mem_singleton.2 rfl))
    omega
theorem crit_ge {l : List Tk} (he : orderE l = 0) {i : Nat} (hi : i < l.length) : endOf l i ≤ critV l := by
  obtain ⟨hv, hl⟩ := orderE_full he
  have hm := full_mem (order_good l).nodup (order_good l).lt (by omega) hi
  have := most_ge (l := l) (orderL l).length (Nat.le_refl _) i (by rw [List.take_length]; exact hm)
  rw [List.take_length] at this
  unfold critV
  rw [if_pos he]
  exact this
theorem crit_le {l : List Tk} (he : orderE l = 0) {M : Int} (hM : 0 ≤ M) (h : ∀ i, i < l.length → endOf l i ≤ M) : critV l ≤ M := by
  have := most_le (l := l) hM (orderL l).length (Nat.le_refl _) fun i hi => h i ((order_good l).lt i (List.mem_of_mem_take hi))
  rw [List.take_length] at this
  unfold critV
  rw [if_pos he]
  exact this
theorem in_order {l : List Tk} (he : orderE l = 0) {i : Nat} (hi : i < l.length) : i ∈ orderL l := by
  obtain ⟨hv, hl⟩ := orderE_full he
  exact full_mem (order_good l).nodup (order_good l).lt (by omega) hi
/-- The sum of all hours. -/
def sumUp (l : List Tk) : Nat → Int
  | 0 => 0
  | k + 1 => sumUp l k + hoursAt l k
def sumH (l : List Tk) : List Nat → Int
  | [] => 0
  | a :: t => hoursAt l a + sumH l t
theorem sumH_snoc (l : List Tk) (i : Nat) : ∀ xs, sumH l (xs ++ [i]) = sumH l xs + hoursAt l i
  | [] => by simp [sumH]
  | a :: t => by
    show hoursAt l a + sumH l (t ++ [i]) = hoursAt l a + sumH l t + hoursAt l i
    rw [sumH_snoc l i t]
    omega
theorem sumH_erase (l : List Tk) {x : Nat} : ∀ xs : List Nat, x ∈ xs → sumH l xs = hoursAt l x + sumH l (xs.erase x)
  | [], h => by cases h
  | a :: t, h => by
    by_cases e : a = x
    · subst e
      rw [List.erase_cons_head]
      rfl
    · rw [List.erase_cons_tail (by simpa using e)]
      have h1 : x ∈ t := by
        rcases List.mem_cons.1 h with h | h
        · exact absurd h.symm e
        · exact h
      show hoursAt l a + sumH l t = hoursAt l x + (hoursAt l a + sumH l (t.erase x))
      rw [sumH_erase l t h1]
      omega
theorem sumH_le {l : List Tk} (hv : validB l = true) : ∀ (n : Nat) (xs : List Nat), xs.Nodup → (∀ i ∈ xs, i < n) → sumH l xs ≤ sumUp l n
  | 0, xs, _, h => by
    cases xs with
    | nil => exact Int.le_refl _
    | cons a t => exact absurd (h a List.mem_cons_self) (by omega)
  | n + 1, xs, hn, h => by
    have hb := (hoursAt_bd hv n).1
    by_cases hm : n ∈ xs
    · have h1 := sumH_le hv n (xs.erase n) (hn.erase n) (fun i hi => by
        have h2 := (hn.mem_erase_iff).1 hi
        have := h i h2.2
        omega)
      rw [sumH_erase l xs hm]
      show _ ≤ sumUp l n + hoursAt l n
      omega
    · have h1 := sumH_le hv n xs hn (fun i hi => by
        have h2 := h i hi
        have : i ≠ n := fun e => hm (e ▸ hi)
        omega)
      show _ ≤ sumUp l n + hoursAt l n
      omega
theorem ends_sum {l : List Tk} (hv : validB l = true) : ∀ k, k ≤ (orderL l).length → (∀ j, (critF l ((orderL l).take k)).1.getD j 0 ≤ sumH l ((orderL l).take k)) ∧ (critF l ((orderL l).take k)).2 ≤ sumH l ((orderL l).take k) ∧ 0 ≤ sumH l ((orderL l).take k) := by
  intro k
  induction k with
  | zero =>
    intro _
    refine ⟨fun j => ?_, Int.le_refl _, Int.le_refl _⟩
    show (List.replicate l.length (0 : Int)).getD j 0 ≤ 0
    rw [List.getD_eq_getElem?_getD, List.getElem?_replicate]
    split <;> simp
  | succ k ih =>
    intro hk
    obtain ⟨h1, h2, h3⟩ := ih (by omega)
    have hb := (hoursAt_bd hv (orderL l)[k]).1
    have hs := startOf_le (ends := (critF l ((orderL l).take k)).1) (M := sumH l ((orderL l).take k)) (needsAt l (orderL l)[k]) 0 h3 (fun j _ => h1 j)
    have hs' : startOf (critF l ((orderL l).take k)).1 (needsAt l (orderL l)[k]) ≤ sumH l ((orderL l).take k) := hs
    rw [critF_take l _ (by omega), List.take_succ_eq_append_getElem (by omega), sumH_snoc]
    refine ⟨fun j => ?_, ?_, by omega⟩
    · show (List.set _ _ _).getD j 0 ≤ _
      rw [getD_set]
      have := h1 j
      split <;> omega
    · show max _ _ ≤ _
      omega
theorem crit_sum {l : List Tk} (he : orderE l = 0) : critV l ≤ sumUp l l.length := by
  obtain ⟨hv, hl⟩ := orderE_full he
  have h1 := (ends_sum hv (orderL l).length (Nat.le_refl _)).2.1
  rw [List.take_length] at h1
  unfold critV
  rw [if_pos he]
  exact Int.le_trans h1 (sumH_le hv _ _ (order_good l).nodup (order_good l).lt)
theorem sumUp_bd {l : List Tk} (hv : validB l = true) : ∀ k : Nat, 0 ≤ sumUp l k ∧ sumUp l k ≤ 1000 * k
  | 0 => ⟨Int.le_refl _, Int.le_refl _⟩
  | k + 1 => by
    have h1 := sumUp_bd hv k
    have h2 := hoursAt_bd hv k
    show 0 ≤ sumUp l k + hoursAt l k ∧ sumUp l k + hoursAt l k ≤ _
    omega

/-- One more thing to wait for. -/
def mergeUp (l : List Tk) (a b k : Nat) : List Nat := (List.range k).filter fun q => decide (q = b) || (needsAt l a).contains q
theorem mergeUp_succ (l : List Tk) (a b k : Nat) : mergeUp l a b (k + 1) = if (decide (k = b) || (needsAt l a).contains k) then mergeUp l a b k ++ [k] else mergeUp l a b k := by
  unfold mergeUp
  rw [List.range_succ, List.filter_append]
  simp only [List.filter_cons, List.filter_nil]
  split <;> simp
theorem mergeUp_len (l : List Tk) (a b k : Nat) : (mergeUp l a b k).length ≤ k := by
  unfold mergeUp
  have := List.length_filter_le (fun q => decide (q = b) || (needsAt l a).contains q) (List.range k)
  simpa using this
def moreT (l : List Tk) (a b i : Nat) : Tk := if i = a then withAfter (tkAt l i) (ints (mergeUp l a b l.length)) else tkAt l i
def ML (l : List Tk) (a b : Nat) : List Tk := (List.range l.length).map (moreT l a b)
theorem ML_len (l : List Tk) (a b : Nat) : (ML l a b).length = l.length := by simp [ML]
theorem ML_get {l : List Tk} {a b i : Nat} (hi : i < l.length) : (ML l a b)[i]? = some (moreT l a b i) := by
  unfold ML
  rw [List.getElem?_map, List.getElem?_range hi]
  rfl
theorem merge_mem {l : List Tk} {a b n q : Nat} : q ∈ mergeUp l a b n ↔ q < n ∧ (q = b ∨ q ∈ needsAt l a) := by
  unfold mergeUp
  rw [List.mem_filter, List.mem_range]
  simp
theorem merge_fine {l : List Tk} {a b : Nat} : fineB l.length (ints (mergeUp l a b l.length)) = true := by
  have hp : (mergeUp l a b l.length).Pairwise (· < ·) := List.pairwise_lt_range.filter _
  have hlt : ∀ q ∈ mergeUp l a b l.length, q < l.length := fun q hq => (merge_mem.1 hq).1
  refine fineB_iff.2 fun k hk => ?_
  have hk' : k < (mergeUp l a b l.length).length := by simpa [ints] using hk
  have hg : ∀ q, (hq : q < (mergeUp l a b l.length).length) → (ints (mergeUp l a b l.length)).getD q 0 = ((mergeUp l a b l.length)[q] : Nat) := fun q hq => by
    rw [getD_get (by simpa [ints] using hq)]
    simp [ints]
  refine stepB_iff.2 ⟨by rw [hg k hk']; omega, by rw [hg k hk']; have := hlt _ (List.getElem_mem hk'); omega, ?_⟩
  by_cases h0 : k = 0
  · exact Or.inl h0
  · right
    rw [hg k hk', hg (k - 1) (by omega)]
    have := List.pairwise_iff_getElem.1 hp (k - 1) k (by omega) hk' (by omega)
    omega
theorem ML_fine {l : List Tk} (hv : validB l = true) (a b : Nat) : ∀ t ∈ ML l a b, tkFine t := by
  intro t ht
  obtain ⟨i, hi, rfl⟩ := List.mem_map.1 ht
  have hi := List.mem_range.1 hi
  have h40 := (validB_iff.1 hv).1
  unfold moreT
  by_cases e : i = a
  · rw [if_pos e]
    have hl := mergeUp_len l a b l.length
    refine ⟨by unfold withAfter; simp only [ints, List.length_map]; omega, fun z hz => ?_⟩
    unfold withAfter at hz
    simp only [ints] at hz
    obtain ⟨q, hq, rfl⟩ := List.mem_map.1 hz
    have := (merge_mem.1 hq).1
    omega
  · rw [if_neg e, tkAt_get hi]
    have hf := (validB_iff.1 hv).2 _ (List.getElem_mem hi)
    have hl := fineB_len (fineTB_iff.1 hf).2
    refine ⟨by omega, fun z hz => ?_⟩
    obtain ⟨q, hq, rfl⟩ := List.getElem_of_mem hz
    have := stepB_iff.1 (fineB_iff.1 (fineTB_iff.1 hf).2 q hq)
    rw [getD_get hq] at this
    omega
theorem ML_valid {l : List Tk} (hv : validB l = true) (a b : Nat) : validB (ML l a b) = true := by
  have h := validB_iff.1 hv
  refine validB_iff.2 ⟨by rw [ML_len]; exact h.1, fun t ht => ?_⟩
  obtain ⟨i, hi, rfl⟩ := List.mem_map.1 ht
  have hi := List.mem_range.1 hi
  rw [ML_len]
  unfold moreT
  have hf := h.2 _ (List.getElem_mem hi)
  by_cases e : i = a
  · rw [if_pos e, tkAt_get hi]
    exact fineTB_iff.2 ⟨headB_iff.2 (headB_iff.1 (fineTB_iff.1 hf).1), merge_fine⟩
  · rw [if_neg e, tkAt_get hi]
    exact hf
theorem ML_hours (l : List Tk) (a b i : Nat) : hoursAt (ML l a b) i = hoursAt l i := by
  unfold hoursAt
  by_cases hi : i < l.length
  · rw [ML_get hi, List.getElem?_eq_getElem hi]
    unfold moreT
    simp only
    split
    · show (tkAt l i).hours = _
      rw [tkAt_get hi]
    · rw [tkAt_get hi]
  · rw [List.getElem?_eq_none (by rw [ML_len]; omega), List.getElem?_eq_none (by omega)]
theorem ML_needs {l : List Tk} (hv : validB l = true) (a b i : Nat) : ∀ j ∈ needsAt l i, j ∈ needsAt (ML l a b) i := by
  intro j hj
  have hi := needsAt_src hj
  have hjl := needsAt_lt hv j hj
  unfold needsAt
  rw [ML_get hi]
  unfold moreT
  by_cases e : i = a
  · subst e
    simp only [if_true]
    unfold needs withAfter
    simp only
    refine List.mem_map.2 ⟨(j : Int), ?_, by simp⟩
    exact List.mem_map.2 ⟨j, merge_mem.2 ⟨hjl, Or.inr hj⟩, rfl⟩
  · simp only [if_neg e]
    rw [needsAt_get hi] at hj
    rw [tkAt_get hi]
    exact hj
/-- More to wait for: no end is earlier. -/
theorem more_ends {l : List Tk} {a b : Nat} (he : orderE l = 0) (he2 : orderE (ML l a b) = 0) : ∀ k, (hk : k < (orderL (ML l a b)).length) → endOf l (orderL (ML l a b))[k] ≤ endOf (ML l a b) (orderL (ML l a b))[k] := by
  obtain ⟨hv, hl⟩ := orderE_full he
  intro k
  induction k using Nat.strongRecOn with
  | ind k ih =>
    intro hk
    obtain ⟨i, hi⟩ : ∃ i, i = (orderL (ML l a b))[k] := ⟨_, rfl⟩
    have hil : i < l.length := by
      have := (order_good (ML l a b)).lt _ (List.getElem_mem hk)
      rw [ML_len] at this
      rw [hi]; exact this
    rw [← hi, end_step (in_order he hil)]
    have h2 : i ∈ orderL (ML l a b) := by rw [hi]; exact List.getElem_mem hk
    rw [end_step h2, ML_hours]
    suffices hs : startOf (critF l (orderL l)).1 (needsAt l i) ≤ startOf (critF (ML l a b) (orderL (ML l a b))).1 (needsAt (ML l a b) i) by omega
    refine startOf_le _ 0 (startOf_pos _ _) fun j hj => ?_
    have hj2 := ML_needs hv a b i j hj
    have hrd := (readyB_iff.1 (order_at hk)).2 j (by rw [← hi]; exact hj2)
    obtain ⟨p, hp, hpe⟩ := List.getElem_of_mem hrd
    rw [List.length_take] at hp
    rw [List.getElem_take] at hpe
    have h3 := ih p (by omega) (by omega)
    rw [hpe] at h3
    exact Int.le_trans h3 (startOf_mem hj2)
theorem more_crit {l : List Tk} {a b : Nat} (he : orderE l = 0) (he2 : orderE (ML l a b) = 0) : critV l ≤ critV (ML l a b) := by
  have h0 : 0 ≤ critV (ML l a b) := by
    have := (critF_bd (orderE_full he2).1 (orderL (ML l a b))).2.1
    unfold critV
    rw [if_pos he2]
    exact this
  refine crit_le he h0 fun i hi => ?_
  obtain ⟨k, hk, rfl⟩ := List.getElem_of_mem (in_order he2 (by rw [ML_len]; exact hi))
  exact Int.le_trans (more_ends he he2 k hk) (crit_ge he2 (by rw [ML_len]; exact hi))
/-- No other task is ready. -/
theorem more_ready {l : List Tk} (hv : validB l = true) (a b : Nat) (done : List Bool) : (readyV (ML l a b) done).Sublist (readyV l done) := by
  unfold readyV
  rw [ML_valid hv, hv, ML_len]
  by_cases hd : done.length = l.length
  · rw [decide_eq_true hd]
    show (readyUp (ML l a b) done l.length).Sublist (readyUp l done l.length)
    unfold readyUp
    have e : (List.range l.length).filter (rdB (ML l a b) done) = ((List.range l.length).filter (rdB l done)).filter (rdB (ML l a b) done) := by
      rw [List.filter_filter]
      congr 1
      funext i
      rw [Bool.eq_iff_iff, Bool.and_eq_true]
      refine ⟨fun h => ⟨h, ?_⟩, fun h => h.1⟩
      unfold rdB needsDone at h ⊢
      rw [Bool.and_eq_true, List.all_eq_true] at h ⊢
      exact ⟨h.1, fun j hj => h.2 j (ML_needs hv a b i j hj)⟩
    rw [e]
    exact List.filter_sublist
  · rw [decide_eq_false hd]
    exact List.Sublist.refl _
theorem sublist_ne {x y : Nat} {t u : List Nat} (e : x ≠ y) (h : (x :: t).Sublist (y :: u)) : (x :: t).Sublist u := by
  cases h with
  | cons _ h => exact h
  | cons_cons _ h => exact absurd rfl e
/-- One step of the comparison. -/
theorem greedy {is was : List Nat} {k i : Nat} (h : (is.drop k).Sublist (was.drop i)) (hi : i < was.length) :
    (∃ hk : k < is.length, is[k] = was[i] ∧ (is.drop (k + 1)).Sublist (was.drop (i + 1))) ∨ ((∀ hk : k < is.length, is[k] ≠ was[i]) ∧ (is.drop k).Sublist (was.drop (i + 1))) := by
  rw [← List.getElem_cons_drop hi] at h
  by_cases hk : k < is.length
  · rw [← List.getElem_cons_drop hk] at h
    by_cases e : is[k] = was[i]
    · left
      refine ⟨hk, e, ?_⟩
      rw [e] at h
      exact List.cons_sublist_cons.1 h
    · right
      refine ⟨fun _ => e, ?_⟩
      rw [← List.getElem_cons_drop hk]
      exact sublist_ne e h
  · right
    refine ⟨fun h2 => absurd h2 hk, ?_⟩
    rw [List.drop_eq_nil_of_le (by omega)]
    exact List.nil_sublist _

end Tsk
end Go.Proofs.Ytejgbfaampllaaa
