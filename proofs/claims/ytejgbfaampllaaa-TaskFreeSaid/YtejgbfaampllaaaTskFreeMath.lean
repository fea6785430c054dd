/- Tasks that wait for nothing: their mathematics. -/
import Derived.Test.YtejgbfaampllaaaTskCopy
import Derived.Test.YtejgbfaampllaaaTskUndoesMath
namespace Go.Proofs.Ytejgbfaampllaaa
open Go.RowKit
theorem RowT.congr {w : World} {g n : Nat} {T T' : Nat → Tk} (h : RowT w g n T) (he : ∀ i, i < n → T i = T' i) : RowT w g n T' :=
  ⟨h.whole, fun k hk => by rw [← he k hk]; exact h.cells k hk⟩
namespace Tsk
def freeUp (l : List Tk) (k i : Nat) : Tk := if i < k then withAfter (tkAt l i) [] else tkAt l i
theorem freeUp_next (l : List Tk) (k : Nat) : (fun i => if i = k then withAfter (freeUp l k i) [] else freeUp l k i) = freeUp l (k + 1) := by
  funext i
  unfold freeUp
  by_cases e : i = k
  · subst e
    rw [if_pos rfl, if_neg (by omega), if_pos (by omega)]
  · rw [if_neg e]
    by_cases h : i < k
    · rw [if_pos h, if_pos (by omega)]
    · rw [if_neg h, if_neg (by omega)]
def FL (l : List Tk) : List Tk := (List.range l.length).map (freeUp l l.length)
theorem FL_len (l : List Tk) : (FL l).length = l.length := by simp [FL]
theorem FL_mem {l : List Tk} {t : Tk} (h : t ∈ FL l) : ∃ i, ∃ hi : i < l.length, t = withAfter l[i] [] := by
  obtain ⟨i, hi, rfl⟩ := List.mem_map.1 h
  have hi := List.mem_range.1 hi
  refine ⟨i, hi, ?_⟩
  unfold freeUp
  rw [if_pos hi, tkAt_get hi]
theorem FL_fine (l : List Tk) : ∀ t ∈ FL l, tkFine t := by
  intro t ht
  obtain ⟨i, hi, rfl⟩ := FL_mem ht
  unfold tkFine withAfter
  simp
theorem FL_valid {l : List Tk} (hv : validB l = true) : validB (FL l) = true := by
  have h := validB_iff.1 hv
  refine validB_iff.2 ⟨by rw [FL_len]; exact h.1, fun t ht => ?_⟩
  obtain ⟨i, hi, rfl⟩ := FL_mem ht
  have h1 := (fineTB_iff.1 (h.2 _ (List.getElem_mem hi))).1
  exact fineTB_iff.2 ⟨headB_iff.2 (headB_iff.1 h1), fineB_iff.2 fun k hk => by simp [withAfter] at hk⟩
theorem FL_needs (l : List Tk) (i : Nat) : needsAt (FL l) i = [] := by
  unfold needsAt
  cases h : (FL l)[i]? with
  | none => rfl
  | some t =>
    obtain ⟨j, _, rfl⟩ := FL_mem (List.mem_of_getElem? h)
    rfl
theorem FL_hours {l : List Tk} {i : Nat} (hi : i < l.length) : hoursAt (FL l) i = hoursAt l i := by
  have e : (FL l)[i]? = some (withAfter l[i] []) := by
    have e2 : freeUp l l.length i = withAfter l[i] [] := by
      unfold freeUp
      rw [if_pos hi, tkAt_get hi]
    unfold FL
    rw [List.getElem?_map, List.getElem?_range hi, ← e2]
    rfl
  rw [hoursAt_get hi]
  unfold hoursAt
  rw [e]
  rfl
theorem FL_readyB (l : List Tk) (ord : List Nat) (i : Nat) : readyB (FL l) ord i = !(ord.contains i) := by
  unfold readyB
  rw [FL_needs]
  simp
theorem FL_next {l : List Tk} {k : Nat} (hk : k < l.length) : nextT (FL l) (List.range k) = some k := by
  refine nextT_some (by rw [FL_len]; exact hk) (by rw [FL_readyB]; simp) fun q hq => by rw [FL_readyB]; simp [hq]
theorem FL_grow {l : List Tk} : ∀ f k, k + f ≤ l.length → grow (FL l) f (List.range k) = List.range (k + f)
  | 0, k, _ => rfl
  | f + 1, k, h => by
    show (match nextT (FL l) (List.range k) with | some i => grow (FL l) f (List.range k ++ [i]) | none => List.range k) = _
    rw [FL_next (by omega)]
    simp only
    rw [← List.range_succ, FL_grow f (k + 1) (by omega)]
    congr 1
    omega
theorem FL_order (l : List Tk) : orderL (FL l) = List.range l.length := by
  have := FL_grow (l := l) l.length 0 (by omega)
  rw [Nat.zero_add] at this
  show grow (FL l) (FL l).length [] = _
  rw [FL_len]
  exact this
theorem FL_orderE {l : List Tk} (hv : validB l = true) : orderE (FL l) = 0 := by
  unfold orderE
  rw [if_pos (FL_valid hv), if_neg]
  rw [FL_order, FL_len, List.length_range]
  omega
theorem FL_orderV {l : List Tk} (hv : validB l = true) : orderV (FL l) = List.range l.length := by
  unfold orderV
  rw [FL_valid hv, FL_order, decide_eq_true (by rw [FL_len, List.length_range]; exact Nat.le_refl _)]
  rfl
def mostUp (l : List Tk) (k : Nat) : Int := (critF (FL l) (List.range k)).2
theorem mostUp_zero (l : List Tk) : mostUp l 0 = 0 := rfl
theorem mostUp_succ {l : List Tk} {k : Nat} (hk : k < l.length) : mostUp l (k + 1) = max (mostUp l k) (hoursAt l k) := by
  unfold mostUp
  rw [List.range_succ, critF_snoc]
  show max _ _ = _
  rw [FL_needs, FL_hours hk]
  show max _ (0 + _) = _
  rw [Int.zero_add]
theorem FL_crit {l : List Tk} (hv : validB l = true) : critV (FL l) = mostUp l l.length := by
  unfold critV mostUp
  rw [if_pos (FL_orderE hv), FL_order]
theorem FL_rd (l : List Tk) (done : List Bool) (i : Nat) : rdB (FL l) done i = !(dn done i) := by
  unfold rdB needsDone
  rw [FL_needs]
  simp
theorem FL_ready {l : List Tk} (hv : validB l = true) {done : List Bool} (hd : done.length = l.length) : readyV (FL l) done = readyUp (FL l) done l.length := by
  unfold readyV
  rw [FL_valid hv, FL_len, decide_eq_true hd]
  rfl
theorem readyUp_pre (l : List Tk) (done : List Bool) (i : Nat) : ∀ f, ∃ ys, readyUp l done (i + f) = readyUp l done i ++ ys
  | 0 => ⟨[], by simp⟩
  | f + 1 => by
    obtain ⟨ys, h⟩ := readyUp_pre l done i f
    rw [show i + (f + 1) = i + f + 1 by omega, readyUp_succ]
    split
    · exact ⟨ys ++ [i + f], by rw [h, List.append_assoc]⟩
    · exact ⟨ys, h⟩
theorem readyUp_at {l : List Tk} {done : List Bool} {i n : Nat} (hi : i < n) (hr : rdB l done i = true) : ∃ h : (readyUp l done i).length < (readyUp l done n).length, (readyUp l done n)[(readyUp l done i).length] = i := by
  obtain ⟨ys, h⟩ := readyUp_pre l done (i + 1) (n - (i + 1))
  rw [show i + 1 + (n - (i + 1)) = n by omega, readyUp_succ, if_pos hr] at h
  have hl : (readyUp l done i).length < (readyUp l done n).length := by rw [h]; simp
  refine ⟨hl, ?_⟩
  simp only [h]
  simp
theorem FL_closed (l : List Tk) (done : List Bool) : closedB (FL l) done = true := closedB_iff.2 fun i _ _ => by unfold needsDone; rw [FL_needs]; rfl
theorem FL_path {l : List Tk} {i j : Nat} : ¬ Path (FL l) i j := fun h => by
  obtain ⟨k, hk, _⟩ := h.step
  rw [FL_needs] at hk
  cases hk
theorem FL_undo_no {l : List Tk} (hv : validB l = true) {done : List Bool} (hd : done.length = l.length) {t : Nat} (ht : t < l.length) (h : dn done t = false) : undoE (FL l) done t = 5 ∧ undoV (FL l) done t = [] := by
  have e : undoE (FL l) done t = 5 := by
    unfold undoE
    rw [FL_valid hv, FL_len, decide_eq_true hd, FL_orderE hv, if_neg (by simp), if_neg (by simp), if_neg (by omega), FL_closed, Int.toNat_natCast, h]
    rfl
  refine ⟨e, ?_⟩
  unfold undoV
  rw [e]
  rfl
theorem FL_undo_yes {l : List Tk} (hv : validB l = true) {done : List Bool} (hd : done.length = l.length) {t : Nat} (ht : t < l.length) (h : dn done t = true) : undoE (FL l) done t = 0 ∧ (undoV (FL l) done t).length = l.length ∧ ∀ x, x < l.length → (dn (undoV (FL l) done t) x = true ↔ dn done x = true ∧ x ≠ t) := by
  have e : undoE (FL l) done t = 0 := undoE_yes (FL_valid hv) (by rw [FL_len]; exact hd) (FL_orderE hv) (by rw [FL_len]; exact ht) (FL_closed l done) h
  have hs := undo_spec e
  rw [FL_len] at hs
  refine ⟨e, hs.1, fun x hx => ?_⟩
  rw [hs.2 x hx]
  exact ⟨fun ⟨h1, h2, _⟩ => ⟨h1, h2⟩, fun ⟨h1, h2⟩ => ⟨h1, h2, FL_path⟩⟩
end Tsk

end Go.Proofs.Ytejgbfaampllaaa
