/- The order of tasks: its mathematics. -/
import Derived.Test.YtejgbfaampllaaaTskMath
namespace Go.Proofs.Ytejgbfaampllaaa.Tsk

def needsAt (l : List Tk) (i : Nat) : List Nat := match l[i]? with | some t => needs t | none => []
theorem needsAt_get {l : List Tk} {i : Nat} (h : i < l.length) : needsAt l i = needs l[i] := by
  unfold needsAt
  rw [List.getElem?_eq_getElem h]
/-- A task that is not done, and has all that it needs. -/
def readyB (l : List Tk) (ord : List Nat) (i : Nat) : Bool := !(ord.contains i) && (needsAt l i).all fun j => ord.contains j
def nextT (l : List Tk) (ord : List Nat) : Option Nat := (List.range l.length).find? (readyB l ord)
def grow (l : List Tk) : Nat → List Nat → List Nat
  | 0, ord => ord
  | f + 1, ord => match nextT l ord with | some i => grow l f (ord ++ [i]) | none => ord
def orderL (l : List Tk) : List Nat := grow l l.length []
structure Good (l : List Tk) (ord : List Nat) : Prop where
  nodup : ord.Nodup
  lt : ∀ i ∈ ord, i < l.length
theorem nodup_len : ∀ (n : Nat) (ord : List Nat), ord.Nodup → (∀ i ∈ ord, i < n) → ord.length ≤ n
  | 0, ord, _, h => by
    cases ord with
    | nil => simp
    | cons a t => exact absurd (h a List.mem_cons_self) (by omega)
  | n + 1, ord, hn, h => by
    by_cases hm : n ∈ ord
    · have h1 := nodup_len n (ord.erase n) (hn.erase n) (fun i hi => by
        have h2 := (hn.mem_erase_iff).1 hi
        have := h i h2.2
        omega)
      rw [List.length_erase_of_mem hm] at h1
      omega
    · have h1 := nodup_len n ord hn (fun i hi => by
        have h2 := h i hi
        have : i ≠ n := fun e => hm (e ▸ hi)
        omega)
      omega
theorem Good.len {l : List Tk} {ord : List Nat} (h : Good l ord) : ord.length ≤ l.length := nodup_len _ _ h.nodup h.lt
theorem Good.snoc {l : List Tk} {ord : List Nat} (h : Good l ord) {i : Nat} (hi : i < l.length) (hn : i ∉ ord) : Good l (ord ++ [i]) := by
  refine ⟨List.nodup_append.2 ⟨h.nodup, by simp, fun a ha b hb => ?_⟩, fun j hj => ?_⟩
  · rw [List.mem_singleton.1 hb]
    intro e
    exact hn (e ▸ ha)
  · rcases List.mem_append.1 hj with hj | hj
    · exact h.lt j hj
    · rw [List.mem_singleton.1 hj]; exact hi
theorem Good.nil (l : List Tk) : Good l [] := ⟨List.nodup_nil, fun _ h => by cases h⟩
theorem Good.less {l : List Tk} {ord : List Nat} (h : Good l ord) {i : Nat} (hi : i < l.length) (hn : i ∉ ord) : ord.length < l.length := by
  have := (h.snoc hi hn).len
  rw [List.length_append] at this
  simp at this
  omega
theorem readyB_iff {l : List Tk} {ord : List Nat} {i : Nat} : readyB l ord i = true ↔ i ∉ ord ∧ ∀ j ∈ needsAt l i, j ∈ ord := by
  simp [readyB, List.all_eq_true]
theorem nextT_some {l : List Tk} {ord : List Nat} {k : Nat} (hk : k < l.length) (hr : readyB l ord k = true) (hb : ∀ q, q < k → readyB l ord q = false) : nextT l ord = some k := by
  unfold nextT
  rw [List.find?_range_eq_some]
  refine ⟨hr, by simpa using hk, fun j hj => ?_⟩
  simp [hb j hj]
theorem nextT_none {l : List Tk} {ord : List Nat} (hb : ∀ q, q < l.length → readyB l ord q = false) : nextT l ord = none := by
  unfold nextT
  rw [List.find?_eq_none]
  intro x hx
  rw [hb x (List.mem_range.1 hx)]
  simp
theorem nextT_spec {l : List Tk} {ord : List Nat} {k : Nat} (h : nextT l ord = some k) : k < l.length ∧ readyB l ord k = true ∧ ∀ q, q < k → readyB l ord q = false := by
  unfold nextT at h
  rw [List.find?_range_eq_some] at h
  refine ⟨by simpa using h.2.1, h.1, fun q hq => ?_⟩
  have := h.2.2 q hq
  simpa using this
/-- On the way to the order. -/
def Way (l : List Tk) (ord : List Nat) : Prop := Good l ord ∧ grow l (l.length - ord.length) ord = orderL l
theorem Way.nil (l : List Tk) : Way l [] := ⟨Good.nil l, rfl⟩
theorem Way.next {l : List Tk} {ord : List Nat} (h : Way l ord) {k : Nat} (hk : nextT l ord = some k) : Way l (ord ++ [k]) := by
  obtain ⟨h1, h2, _⟩ := nextT_spec hk
  have hn := (readyB_iff.1 h2).1
  have hl := h.1.less h1 hn
  refine ⟨h.1.snoc h1 hn, ?_⟩
  rw [← h.2, show l.length - ord.length = (l.length - (ord ++ [k]).length) + 1 by rw [List.length_append]; simp; omega]
  show _ = (match nextT l ord with | some i => grow l _ (ord ++ [i]) | none => ord)
  rw [hk]
theorem Way.stop {l : List Tk} {ord : List Nat} (h : Way l ord) (hk : nextT l ord = none) : ord = orderL l := by
  rw [← h.2]
  cases l.length - ord.length with
  | zero => rfl
  | succ f =>
    show ord = (match nextT l ord with | some i => grow l _ (ord ++ [i]) | none => ord)
    rw [hk]
theorem Way.full {l : List Tk} {ord : List Nat} (h : Way l ord) (hk : ord.length = l.length) : ord = orderL l := by
  rw [← h.2, show l.length - ord.length = 0 by omega]
  rfl
theorem grow_good {l : List Tk} : ∀ f ord, Good l ord → Good l (grow l f ord)
  | 0, _, h => h
  | f + 1, ord, h => by
    show Good l (match nextT l ord with | some i => grow l f (ord ++ [i]) | none => ord)
    cases hn : nextT l ord with
    | none => exact h
    | some i =>
      obtain ⟨h1, h2, _⟩ := nextT_spec hn
      exact grow_good f _ (h.snoc h1 (readyB_iff.1 h2).1)
theorem order_good (l : List Tk) : Good l (orderL l) := grow_good _ _ (Good.nil l)
def orderE (l : List Tk) : Int := if validB l then (if (orderL l).length < l.length then 24 else 0) else 1
def orderV (l : List Tk) : List Nat := if validB l && decide (l.length ≤ (orderL l).length) then orderL l else []
def ints (l : List Nat) : List Int := l.map fun n : Nat => (n : Int)

end Go.Proofs.Ytejgbfaampllaaa.Tsk
