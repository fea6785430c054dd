/- Sets of indices, each with a root: what the parents say, and how they change. -/
import Derived.ProofKit
namespace Go.Proofs.Ytolnpimnoajcaaa

namespace Lnk
def upd (p : Nat → Nat) (i x : Nat) : Nat → Nat := fun j => if j = i then x else p j
/-- p leads each index to the root r of its set, on a way whose numbers d fall. -/
structure UF (n : Nat) (p r d : Nat → Nat) : Prop where
  lt : ∀ i, i < n → p i < n
  rlt : ∀ i, i < n → r i < n
  fix : ∀ i, i < n → p (r i) = r i
  step : ∀ i, i < n → r (p i) = r i
  own : ∀ i, i < n → p i = i → r i = i
  rank : ∀ i, i < n → p i ≠ i → d (p i) < d i
section
variable {n : Nat} {p r d : Nat → Nat}
theorem UF.start (n : Nat) : UF n (fun i => i) (fun i => i) (fun _ => 0) := ⟨fun _ h => h, fun _ h => h, fun _ _ => rfl, fun _ _ => rfl, fun _ _ _ => rfl, fun _ _ h => absurd rfl h⟩
theorem UF.idem (h : UF n p r d) {i : Nat} (hi : i < n) : r (r i) = r i := h.own _ (h.rlt i hi) (h.fix i hi)
/-- A way is made shorter. -/
theorem UF.half (h : UF n p r d) {i : Nat} (hi : i < n) (hne : p i ≠ i) : UF n (upd p i (p (p i))) r d := by
  have h1 := h.rank i hi hne
  have h2 : d (p (p i)) ≤ d (p i) := by
    by_cases e : p (p i) = p i
    · rw [e]; exact Nat.le_refl _
    · exact Nat.le_of_lt (h.rank _ (h.lt i hi) e)
  refine ⟨fun j hj => ?_, h.rlt, fun j hj => ?_, fun j hj => ?_, fun j hj => ?_, fun j hj => ?_⟩
  · unfold upd; split
    · exact h.lt _ (h.lt i hi)
    · exact h.lt j hj
  · unfold upd; split
    · rename_i e
      have := h.fix j hj
      rw [e] at this
      exact absurd this hne
    · exact h.fix j hj
  · unfold upd; split
    · rename_i e; subst e
      rw [h.step _ (h.lt _ hi), h.step _ hi]
    · exact h.step j hj
  · unfold upd; split
    · rename_i e; subst e
      intro hh
      rw [hh] at h2
      omega
    · exact h.own j hj
  · unfold upd; split
    · rename_i e; subst e
      intro _; omega
    · exact h.rank j hj
/-- Two sets become one. -/
theorem UF.join (h : UF n p r d) {i j : Nat} (hi : i < n) (hj : j < n) :
    UF n (upd p (r i) (r j)) (fun x => if r x = r i then r j else r x) (fun x => if r x = r i then d x + (d (r j) + 1) else d x) := by
  have hri := h.rlt i hi
  have hrj := h.rlt j hj
  have iri := h.idem hi
  have irj := h.idem hj
  refine ⟨fun x hx => ?_, fun x hx => ?_, fun x hx => ?_, fun x hx => ?_, fun x hx => ?_, fun x hx => ?_⟩
  · unfold upd; split
    · exact hrj
    · exact h.lt x hx
  · (try dsimp only); split
    · exact hrj
    · exact h.rlt x hx
  · (try dsimp only); unfold upd
    by_cases e : r x = r i
    · rw [if_pos e]
      split
      · rfl
      · exact h.fix j hj
    · rw [if_neg e, if_neg e]; exact h.fix x hx
  · (try dsimp only); unfold upd
    by_cases e : x = r i
    · subst e
      rw [if_pos rfl, if_pos iri]
      split
      · rfl
      · exact irj
    · rw [if_neg e, h.step x hx]
  · (try dsimp only); unfold upd
    by_cases e : x = r i
    · subst e
      rw [if_pos rfl, if_pos iri]; exact id
    · rw [if_neg e]
      intro hh
      have := h.own x hx hh
      rw [this, if_neg e]
  · (try dsimp only); unfold upd
    by_cases e : x = r i
    · subst e
      rw [if_pos rfl, if_pos iri]
      intro hne
      rw [irj, if_neg hne]
      omega
    · rw [if_neg e]
      intro hne
      rw [h.step x hx]
      have := h.rank x hx hne
      split <;> omega
end

/-- The equivalence that shared names make. -/
inductive Conn (n : Nat) (N : Nat → List (List UInt8)) : Nat → Nat → Prop
  | refl (i : Nat) : Conn n N i i
  | step {i j k : Nat} {x : List UInt8} : j < n → k < n → Conn n N i j → x ∈ N j → x ∈ N k → Conn n N i k
theorem Conn.trans {n : Nat} {N : Nat → List (List UInt8)} {i j k : Nat} (h : Conn n N i j) (h2 : Conn n N j k) : Conn n N i k := by
  induction h2 with
  | refl => exact h
  | step a b _ c d ih => exact .step a b ih c d
theorem Conn.symm {n : Nat} {N : Nat → List (List UInt8)} {i j : Nat} (h : Conn n N i j) : Conn n N j i := by
  induction h with
  | refl => exact .refl _
  | step a b _ c d ih => exact (Conn.step b a (.refl _) d c).trans ih

/-- What is so when some reports are done, and of the next one some names. -/
structure Half (n : Nat) (N : Nat → List (List UInt8)) (k m : Nat) (p r d : Nat → Nat) (first : List UInt8 → Option Nat) : Prop where
  uf : UF n p r d
  firstIn : ∀ x j, first x = some j → j < n ∧ x ∈ N j
  sound : ∀ a b, a < n → b < n → r a = r b → Conn n N a b
  done : ∀ i x, i < n → (i < k ∧ x ∈ N i ∨ i = k ∧ x ∈ (N i).take m) → ∃ j, first x = some j ∧ r i = r j
section
variable {n k m : Nat} {N : Nat → List (List UInt8)} {p r d : Nat → Nat} {first : List UInt8 → Option Nat}
theorem Half.start (n : Nat) (N : Nat → List (List UInt8)) : Half n N 0 0 (fun i => i) (fun i => i) (fun _ => 0) (fun _ => none) :=
  ⟨UF.start n, (fun _ _ h => by cases h), (fun a b _ _ h => by subst h; exact .refl _), (fun i x _ h => by rcases h with ⟨h, _⟩ | ⟨_, h⟩ <;> simp at h)⟩
theorem Half.next (h : Half n N k m p r d first) (hm : (N k).length ≤ m) : Half n N (k + 1) 0 p r d first :=
  ⟨h.uf, h.firstIn, h.sound, fun i x hi hx => by
    rcases hx with ⟨h1, h2⟩ | ⟨_, h2⟩
    · by_cases e : i = k
      · subst e
        exact h.done i x hi (Or.inr ⟨rfl, by rw [List.take_of_length_le hm]; exact h2⟩)
      · exact h.done i x hi (Or.inl ⟨by omega, h2⟩)
    · simp at h2⟩
theorem take_mem {l : List (List UInt8)} {m : Nat} {x y : List UInt8} (hy : l[m]? = some y) (h : x ∈ l.take (m + 1)) : x ∈ l.take m ∨ x = y := by
  rw [List.take_add_one, hy] at h
  simpa using h
theorem get_mem {l : List (List UInt8)} {m : Nat} {y : List UInt8} (hy : l[m]? = some y) : y ∈ l := List.mem_of_getElem? hy
/-- The name is new. -/
theorem Half.new (h : Half n N k m p r d first) (hk : k < n) {y : List UInt8} (hy : (N k)[m]? = some y) (hf : first y = none) : Half n N k (m + 1) p r d (fun x => if x = y then some k else first x) := by
  refine ⟨h.uf, fun x j hx => ?_, h.sound, fun i x hi hx => ?_⟩
  · (try dsimp only at hx)
    split at hx
    · rename_i e; subst e
      injection hx with hx; subst hx
      exact ⟨hk, get_mem hy⟩
    · exact h.firstIn x j hx
  · have old : (i < k ∧ x ∈ N i ∨ i = k ∧ x ∈ (N i).take m) → ∃ j, (fun x => if x = y then some k else first x) x = some j ∧ r i = r j := fun hh => by
      obtain ⟨j, h1, h2⟩ := h.done i x hi hh
      have : x ≠ y := fun e => by rw [e, hf] at h1; cases h1
      exact ⟨j, by dsimp only; rw [if_neg this]; exact h1, h2⟩
    rcases hx with hx | ⟨rfl, hx⟩
    · exact old (Or.inl hx)
    · rcases take_mem hy hx with hx | rfl
      · exact old (Or.inr ⟨rfl, hx⟩)
      · exact ⟨i, by simp, rfl⟩
/-- The name was there: the report comes to the set of the first one with it. -/
theorem Half.old (h : Half n N k m p r d first) (hk : k < n) {y : List UInt8} {j : Nat} (hy : (N k)[m]? = some y) (hf : first y = some j) {p' : Nat → Nat} (hu : UF n p' r d) :
    Half n N k (m + 1) (upd p' (r k) (r j)) (fun x => if r x = r k then r j else r x) (fun x => if r x = r k then d x + (d (r j) + 1) else d x) first := by
  obtain ⟨hj, hyj⟩ := h.firstIn y j hf
  have hkj : Conn n N k j := .step hk hj (.refl _) (get_mem hy) hyj
  have keep : ∀ a b, r a = r b → (if r a = r k then r j else r a) = (if r b = r k then r j else r b) := fun a b e => by rw [e]
  refine ⟨hu.join hk hj, h.firstIn, fun a b ha hb e => ?_, fun i x hi hx => ?_⟩
  · (try dsimp only at e)
    by_cases e1 : r a = r k <;> by_cases e2 : r b = r k
    · exact h.sound a b ha hb (e1.trans e2.symm)
    · rw [if_pos e1, if_neg e2] at e
      exact ((h.sound a k ha hk e1).trans hkj).trans (h.sound j b hj hb e)
    · rw [if_neg e1, if_pos e2] at e
      exact ((h.sound a j ha hj e).trans hkj.symm).trans (h.sound k b hk hb e2.symm)
    · rw [if_neg e1, if_neg e2] at e
      exact h.sound a b ha hb e
  · have old : (i < k ∧ x ∈ N i ∨ i = k ∧ x ∈ (N i).take m) → ∃ j', first x = some j' ∧ (if r i = r k then r j else r i) = (if r j' = r k then r j else r j') := fun hh => by
      obtain ⟨j', h1, h2⟩ := h.done i x hi hh
      exact ⟨j', h1, keep _ _ h2⟩
    rcases hx with hx | ⟨rfl, hx⟩
    · exact old (Or.inl hx)
    · rcases take_mem hy hx with hx | rfl
      · exact old (Or.inr ⟨rfl, hx⟩)
      · refine ⟨j, hf, ?_⟩
        (try dsimp only)
        rw [if_pos rfl]
        split <;> rfl
/-- All is done: two indices have one root exactly if they are connected. -/
theorem Half.end (h : Half n N n 0 p r d first) {a b : Nat} (ha : a < n) (hb : b < n) : r a = r b ↔ Conn n N a b := by
  refine ⟨h.sound a b ha hb, fun hc => ?_⟩
  have key : ∀ {a b}, Conn n N a b → a < n → r a = r b := by
    intro a b hc
    induction hc with
    | refl => intro _; rfl
    | @step j k x hj hk hc hx hy ih =>
      intro ha
      obtain ⟨j1, e1, e2⟩ := h.done j x hj (Or.inl ⟨hj, hx⟩)
      obtain ⟨j2, e3, e4⟩ := h.done k x hk (Or.inl ⟨hk, hy⟩)
      rw [e1] at e3
      injection e3 with e3
      rw [ih ha, e2, e4, e3]
  exact key hc ha
end
end Lnk
end Go.Proofs.Ytolnpimnoajcaaa
