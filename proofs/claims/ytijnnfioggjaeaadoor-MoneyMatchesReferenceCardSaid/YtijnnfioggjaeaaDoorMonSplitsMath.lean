/- What the shares of an amount come to. -/
import Derived.Test.YtijnnfioggjaeaaDoorMonSplitAny
namespace Go.Proofs.YtijnnfioggjaeaaDoor
open Go.RowKit

/-- What is left over of the first k parts. -/
def rsum (n s : Int) (zs : List Int) : Nat → Int
  | 0 => 0
  | k + 1 => rsum n s zs k + (partAt n s zs k).r
theorem part_eq (n s : Int) (zs : List Int) (j : Nat) : s * (partAt n s zs j).q + (partAt n s zs j).r = n * (zs[j]?.getD 0) := by
  show s * (n * (zs[j]?.getD 0) / s) + n * (zs[j]?.getD 0) % s = _
  exact Int.mul_ediv_add_emod _ _
theorem whole_eq (n s : Int) (zs : List Int) (k : Nat) (hk : k ≤ zs.length) : s * qsum n s zs k + rsum n s zs k = n * (zs.take k).sum := by
  induction k with
  | zero => simp [qsum, rsum]
  | succ k ih =>
    have h1 := ih (by omega)
    have h2 := part_eq n s zs k
    have e : (zs.take (k + 1)).sum = (zs.take k).sum + zs[k]?.getD 0 := by
      rw [List.take_succ_eq_append_getElem (by omega), Mon.sum_snoc, List.getElem?_eq_getElem (by omega)]; rfl
    show s * (qsum n s zs k + (partAt n s zs k).q) + (rsum n s zs k + (partAt n s zs k).r) = _
    rw [e, Int.mul_add, Int.mul_add]
    omega
theorem rest_bd {n s : Int} {zs : List Int} (hs : 0 < s) (k : Nat) : 0 ≤ rsum n s zs k ∧ rsum n s zs k ≤ (s - 1) * ((partsTo n s zs k).countP fun p => decide (0 < p.r) : Nat) := by
  induction k with
  | zero => simp [rsum, partsTo]
  | succ k ih =>
    have h1 : 0 ≤ (partAt n s zs k).r := Int.emod_nonneg _ (by omega)
    have h2 : (partAt n s zs k).r < s := Int.emod_lt_of_pos _ hs
    rw [partsTo_succ, List.countP_append]
    show 0 ≤ rsum n s zs k + (partAt n s zs k).r ∧ rsum n s zs k + (partAt n s zs k).r ≤ _
    by_cases h0 : 0 < (partAt n s zs k).r
    · have e : List.countP (fun p : Mon.Part => decide (0 < p.r)) [partAt n s zs k] = 1 := by simp [h0]
      rw [e, Int.natCast_add, Int.mul_add]
      omega
    · have e : List.countP (fun p : Mon.Part => decide (0 < p.r)) [partAt n s zs k] = 0 := by simp; omega
      rw [e, Nat.add_zero]
      omega
/-- How many cents are left to hand out. -/
def left (n s : Int) (zs : List Int) : Int := n - qsum n s zs zs.length
theorem left_eq {n s : Int} {zs : List Int} (hs : s = zs.sum) : rsum n s zs zs.length = s * left n s zs := by
  have := whole_eq n s zs zs.length (Nat.le_refl _)
  rw [List.take_length, ← hs, Int.mul_comm n s] at this
  unfold left
  rw [Int.mul_sub]
  omega
theorem left_bd {n s : Int} {zs : List Int} (hs : s = zs.sum) (hpos : 0 < s) : 0 ≤ left n s zs ∧ left n s zs ≤ ((partsTo n s zs zs.length).countP fun p => decide (0 < p.r) : Nat) := by
  obtain ⟨h1, h2⟩ := rest_bd (n := n) (zs := zs) hpos zs.length
  rw [left_eq hs] at h1 h2
  generalize left n s zs = l at *
  generalize List.countP (fun p : Mon.Part => decide (0 < p.r)) (partsTo n s zs zs.length) = c at *
  have hl : 0 ≤ l := by
    rcases Int.lt_or_le l 0 with h | h
    · have := Int.mul_neg_of_pos_of_neg hpos h; omega
    · exact h
  refine ⟨hl, ?_⟩
  rcases Int.lt_or_le (c : Int) l with h | h
  · have h3 : (s - 1) * (c : Int) ≤ (s - 1) * (l - 1) := Int.mul_le_mul_of_nonneg_left (by omega) (by omega)
    have e : (s - 1) * (l - 1) = s * l - s - l + 1 := by rw [Int.sub_mul, Int.mul_sub, Int.one_mul, Int.mul_one]; omega
    omega
  · exact h
/-- One share. -/
def shareAt (n s : Int) (zs : List Int) (j : Nat) : Int := Mon.fin (partsTo n s zs zs.length) (left n s zs) (partAt n s zs j)
theorem shares_get {n s : Int} {zs : List Int} {j : Nat} (h : j < zs.length) : (shares n s zs)[j]? = some (shareAt n s zs j) := by
  unfold shares
  rw [List.getElem?_map, List.getElem?_range h]
  rfl
theorem share_near (n s : Int) (zs : List Int) (j : Nat) : shareAt n s zs j = (partAt n s zs j).q ∨ shareAt n s zs j = (partAt n s zs j).q + 1 := by
  unfold shareAt Mon.fin
  split
  · exact Or.inr rfl
  · exact Or.inl (by omega)
theorem rank_zero {P : List Mon.Part} {x : Mon.Part} (h : x.r ≤ 0) : (P.countP fun p => decide (0 < p.r)) ≤ Mon.rank P x := by
  unfold Mon.rank
  refine List.countP_mono_left fun p _ hp => ?_
  have := of_decide_eq_true hp
  exact Mon.ordB_iff.2 (Or.inl (by omega))
/-- What has nothing left over is handed nothing more. -/
theorem share_zero {n s : Int} {zs : List Int} (hs : s = zs.sum) (hpos : 0 < s) {j : Nat} (h : (partAt n s zs j).r ≤ 0) : shareAt n s zs j = (partAt n s zs j).q := by
  have h1 := (left_bd (n := n) hs hpos).2
  have h2 := rank_zero (P := partsTo n s zs zs.length) h
  unfold shareAt Mon.fin
  rw [if_neg (by omega)]
  omega
theorem rank_mono {P : List Mon.Part} {x y : Mon.Part} (h : Mon.ord x y) : Mon.rank P x ≤ Mon.rank P y := by
  unfold Mon.rank
  exact List.countP_mono_left fun p _ hp => Mon.ordB_iff.2 (Mon.ord_trans (Mon.ordB_iff.1 hp) h)
theorem share_mono {n s : Int} {zs : List Int} (hpos : 0 < s) {i k : Nat} (hle : n * (zs[i]?.getD 0) ≤ n * (zs[k]?.getD 0)) (heq : n * (zs[i]?.getD 0) = n * (zs[k]?.getD 0) → k < i) : shareAt n s zs i ≤ shareAt n s zs k := by
  have hq : (partAt n s zs i).q ≤ (partAt n s zs k).q := Int.ediv_le_ediv hpos hle
  have n1 := share_near n s zs i
  have n2 := share_near n s zs k
  by_cases h : (partAt n s zs i).q = (partAt n s zs k).q
  · have e1 := part_eq n s zs i
    have e2 := part_eq n s zs k
    rw [h] at e1
    have ho : Mon.ord (partAt n s zs k) (partAt n s zs i) := by
      by_cases hr : (partAt n s zs i).r = (partAt n s zs k).r
      · exact Or.inr ⟨hr, by have := heq (by omega); show (k : Int) < i; omega⟩
      · exact Or.inl (by omega)
    have hm := rank_mono (P := partsTo n s zs zs.length) ho
    unfold shareAt Mon.fin
    split <;> split <;> omega
  · omega
theorem left_sum (l : Int) (hl : 0 ≤ l) (m : Nat) : ((List.range m).map fun t : Nat => if (t : Int) < l then (1 : Int) else 0).sum = if (m : Int) < l then (m : Int) else l := by
  induction m with
  | zero => simp; omega
  | succ m ih =>
    rw [List.range_succ, List.map_append, List.sum_append, ih]
    simp only [List.map_cons, List.map_nil, List.sum_cons, List.sum_nil]
    split <;> split <;> first | omega | (split <;> omega)
theorem perm_sum {a b : List Int} (h : a.Perm b) : a.sum = b.sum := by
  induction h with
  | nil => rfl
  | cons x _ ih => simp [ih]
  | swap x y l => simp only [List.sum_cons]; omega
  | trans _ _ h1 h2 => omega
theorem sorted_ex (P : List Mon.Part) (hi : P.Pairwise fun p q => p.i < q.i) : ∃ L : List Mon.Part, L.Perm P ∧ L.Pairwise Mon.ord := by
  let le : Mon.Part → Mon.Part → Bool := fun p q => !Mon.ordB q p
  have hp : (P.mergeSort le).Perm P := List.mergeSort_perm P le
  have hs : (P.mergeSort le).Pairwise fun a b => le a b = true := by
    refine List.pairwise_mergeSort ?_ ?_ P
    · intro a b c h1 h2
      simp only [le, Bool.not_eq_true', ← Bool.not_eq_true, Mon.ordB_iff] at *
      unfold Mon.ord at *
      omega
    · intro a b
      simp only [le]
      cases h1 : Mon.ordB b a
      · simp
      · cases h2 : Mon.ordB a b
        · simp
        · have := Mon.ordB_iff.1 h1; have := Mon.ordB_iff.1 h2; unfold Mon.ord at *; omega
  have hn : (P.mergeSort le).Pairwise fun a b => a.i ≠ b.i :=
    (hp.symm.pairwise_iff (fun {a b} h => Ne.symm h)).1 (hi.imp fun h => Int.ne_of_lt h)
  refine ⟨_, hp, (hs.and hn).imp fun {a b} h => ?_⟩
  obtain ⟨h1, h2⟩ := h
  simp only [le, Bool.not_eq_true', ← Bool.not_eq_true, Mon.ordB_iff] at h1
  unfold Mon.ord at *
  omega
theorem shares_sum {n s : Int} {zs : List Int} (hs : s = zs.sum) (hpos : 0 < s) : (shares n s zs).sum = n := by
  obtain ⟨P, hP⟩ : ∃ P, P = partsTo n s zs zs.length := ⟨_, rfl⟩
  obtain ⟨l1, l2⟩ := left_bd (n := n) hs hpos
  have e1 : shares n s zs = P.map fun x => x.q + (if (Mon.rank P x : Int) < left n s zs then 1 else 0) := by
    rw [hP]; unfold shares partsTo; rw [List.map_map]; rfl
  have e2 : ∀ (g : Mon.Part → Int) (Q : List Mon.Part), (Q.map fun x => x.q + g x).sum = (Q.map fun x => x.q).sum + (Q.map g).sum := by
    intro g Q
    induction Q with
    | nil => simp
    | cons a Q ih => simp only [List.map_cons, List.sum_cons, ih]; omega
  have e3 : ∀ k, ((partsTo n s zs k).map fun x => x.q).sum = qsum n s zs k := by
    intro k
    induction k with
    | zero => rfl
    | succ k ih => rw [partsTo_succ, List.map_append, List.sum_append, ih]; simp [qsum]
  obtain ⟨L, hL, hLs⟩ := sorted_ex P (by rw [hP]; exact partsTo_idx _ _ _ _)
  have hLl : L.length = zs.length := by rw [hL.length_eq, hP, partsTo_len]
  have e4 : (P.map fun x => if (Mon.rank P x : Int) < left n s zs then (1 : Int) else 0).sum = left n s zs := by
    have h1 := perm_sum (hL.map fun x => if (Mon.rank P x : Int) < left n s zs then (1 : Int) else 0)
    rw [← h1]
    have h2 : (L.map fun x => if (Mon.rank P x : Int) < left n s zs then (1 : Int) else 0) = (List.range zs.length).map fun t : Nat => if (t : Int) < left n s zs then (1 : Int) else 0 := by
      apply List.ext_getElem
      · simp [hLl]
      · intro t h1 h2
        rw [List.length_map] at h1
        rw [List.getElem_map, List.getElem_map, List.getElem_range, ← Mon.rank_perm hL, Mon.rank_at hLs t h1]
    rw [h2, left_sum _ l1]
    have hc : (List.countP (fun p : Mon.Part => decide (0 < p.r)) (partsTo n s zs zs.length) : Int) ≤ zs.length := by
      have := List.countP_le_length (p := fun p : Mon.Part => decide (0 < p.r)) (l := partsTo n s zs zs.length)
      rw [partsTo_len] at this; omega
    split <;> omega
  rw [e1, e2, e4, hP, e3]
  unfold left
  omega

theorem splits_point {n s : Int} {zs : List Int} (hn : 0 ≤ n ∧ n ≤ 1000000000000) (hz : ∀ z ∈ zs, 0 ≤ z ∧ z ≤ 9999999) (hs : s = zs.sum) (hpos : 0 < s) (j : Nat) (hj : j < zs.length) :
    0 ≤ zs[j]?.getD 0 ∧ zs[j]?.getD 0 ≤ 9999999 ∧ 0 ≤ shareAt n s zs j ∧ shareAt n s zs j ≤ n + 1 ∧ (zs[j]?.getD 0 = 0 → shareAt n s zs j = 0) ∧
      -s < shareAt n s zs j * s - n * (zs[j]?.getD 0) ∧ shareAt n s zs j * s - n * (zs[j]?.getD 0) < s := by
  have hm : zs[j]?.getD 0 ∈ zs := by rw [List.getElem?_eq_getElem hj]; exact List.getElem_mem _
  obtain ⟨z0, z1⟩ := hz _ hm
  have hle : zs[j]?.getD 0 ≤ s := by rw [hs]; exact mem_le_sum hz _ hm
  obtain ⟨p0, p1, p2, p3, p4, p5⟩ := quot_bd hn ⟨z0, z1⟩ (show 1 ≤ s by omega) hle
  have hqn : n * (zs[j]?.getD 0) / s ≤ n := by
    have h1 : n * (zs[j]?.getD 0) ≤ n * s := Int.mul_le_mul_of_nonneg_left hle hn.1
    have : n * (zs[j]?.getD 0) / s < n + 1 := (Int.ediv_lt_iff_lt_mul hpos).2 (by rw [Int.add_mul]; omega)
    omega
  have e := part_eq n s zs j
  have hq : (partAt n s zs j).q = n * (zs[j]?.getD 0) / s := rfl
  have hr : (partAt n s zs j).r = n * (zs[j]?.getD 0) % s := rfl
  rw [← hq] at p2 p3 hqn
  rw [← hr] at p4 p5
  have near := share_near n s zs j
  have zero := share_zero (n := n) (zs := zs) hs hpos (j := j)
  refine ⟨z0, z1, by omega, by omega, ?_, ?_⟩
  · intro h0
    have h1 : n * (zs[j]?.getD 0) = 0 := by rw [h0, Int.mul_zero]
    rw [h1] at hq hr
    rw [Int.zero_ediv] at hq
    rw [Int.zero_emod] at hr
    rw [zero (by omega), hq]
  · have e1 : (partAt n s zs j).q * s = s * (partAt n s zs j).q := Int.mul_comm _ _
    rcases near with h | h
    · rw [h, e1]; omega
    · have e2 : ((partAt n s zs j).q + 1) * s = s * (partAt n s zs j).q + s := by rw [Int.add_mul, e1, Int.one_mul]
      have : 0 < (partAt n s zs j).r := by
        rcases Int.lt_or_le 0 (partAt n s zs j).r with h1 | h1
        · exact h1
        · have := zero h1; omega
      rw [h, e2]; omega
theorem splits_order {n s : Int} {zs : List Int} (hn : 0 ≤ n ∧ n ≤ 1000000000000) (hz : ∀ z ∈ zs, 0 ≤ z ∧ z ≤ 9999999) (hs : s = zs.sum) (hpos : 0 < s) (k i : Nat) (hki : k < i) (hi : i < zs.length) :
    (zs[i]?.getD 0 < zs[k]?.getD 0 ∧ shareAt n s zs i ≤ shareAt n s zs k) ∨ (zs[k]?.getD 0 < zs[i]?.getD 0 ∧ shareAt n s zs k ≤ shareAt n s zs i) ∨
      (zs[k]?.getD 0 = zs[i]?.getD 0 ∧ shareAt n s zs i ≤ shareAt n s zs k ∧ shareAt n s zs k ≤ shareAt n s zs i + 1) := by
  rcases Int.lt_trichotomy (zs[i]?.getD 0) (zs[k]?.getD 0) with h | h | h
  · exact Or.inl ⟨h, share_mono hpos (Int.mul_le_mul_of_nonneg_left (by omega) hn.1) fun _ => hki⟩
  · refine Or.inr (Or.inr ⟨h.symm, share_mono hpos (by rw [h]; exact Int.le_refl _) fun _ => hki, ?_⟩)
    have n1 := share_near n s zs i
    have n2 := share_near n s zs k
    have : (partAt n s zs i).q = (partAt n s zs k).q := by unfold partAt; rw [h]
    omega
  · refine Or.inr (Or.inl ⟨h, ?_⟩)
    rcases (show 0 = n ∨ 0 < n by omega) with h0 | h0
    · have hr : (partAt n s zs k).r = 0 := by show n * (zs[k]?.getD 0) % s = 0; rw [← h0, Int.zero_mul, Int.zero_emod]
      have hq : (partAt n s zs k).q = 0 := by show n * (zs[k]?.getD 0) / s = 0; rw [← h0, Int.zero_mul, Int.zero_ediv]
      have h1 := share_zero (n := n) (zs := zs) hs hpos (j := k) (by omega)
      have h2 := (splits_point hn hz hs hpos i hi).2.2.1
      omega
    · have hlt : n * (zs[k]?.getD 0) < n * (zs[i]?.getD 0) := Int.mul_lt_mul_of_pos_left h h0
      exact share_mono hpos (by omega) fun he => by omega

end Go.Proofs.YtijnnfioggjaeaaDoor
