/- One report more: which sets become one. -/
import Derived.Test.YtolnpimnoajcaaaLnkMore
import Derived.Test.YtolnpimnoajcaaaLnkOfM
import Derived.Test.YtolnpimnoajcaaaLnkMapI
import Derived.Test.YtolnpimnoajcaaaMapBool
namespace Go.Proofs.Ytolnpimnoajcaaa
open Go.RowKit Go.Maps Go.WideMaps
open Evt

namespace Lnk
theorem num_eqF {r : Nat → Nat} {n x y : Nat} (hx : x < n) (hy : y < n) : num r n x = num r n y ↔ r x = r y := by
  obtain ⟨s, h1, h2, h3⟩ := num_ex (r := r) hx
  obtain ⟨t, h4, h5, h6⟩ := num_ex (r := r) hy
  constructor
  · intro h
    rw [h3, h6] at h
    have : s = t := by omega
    subst this
    obtain ⟨q1, q2⟩ := at_some h1
    obtain ⟨q3, q4⟩ := at_some h4
    exact q2.symm.trans q4
  · intro h
    unfold num
    rw [h]
variable {l : List Rp} {x : Rp}
theorem names_old {i : Nat} (h : i < l.length) : namesAt (l ++ [x]) i = namesAt l i := by
  unfold namesAt
  rw [List.getElem?_append_left h]
theorem names_new : namesAt (l ++ [x]) l.length = namesR x := by
  unfold namesAt
  rw [List.getElem?_append_right (Nat.le_refl _), Nat.sub_self]
  rfl
/-- A report connected with this one shares a part with the new one. -/
def Joins (l : List Rp) (x : Rp) (i : Nat) : Prop := ∃ j, j < l.length ∧ Conn l.length (namesAt l) i j ∧ ∃ y ∈ namesAt l j, y ∈ namesR x
theorem Joins.conn {i k : Nat} (h : Joins l x i) (hc : Conn l.length (namesAt l) k i) : Joins l x k := by
  obtain ⟨j, h1, h2, h3⟩ := h
  exact ⟨j, h1, hc.trans h2, h3⟩
theorem conn_up {i k : Nat} (h : Conn l.length (namesAt l) i k) : Conn (l.length + 1) (namesAt (l ++ [x])) i k := by
  induction h with
  | refl => exact .refl _
  | step hj hk _ h1 h2 ih => exact .step (by omega) (by omega) ih (by rw [names_old hj]; exact h1) (by rw [names_old hk]; exact h2)
theorem conn_down {i k : Nat} (h : Conn (l.length + 1) (namesAt (l ++ [x])) i k) (hi : i < l.length) : (k = l.length → Joins l x i) ∧ (k < l.length → Conn l.length (namesAt l) i k ∨ (Joins l x i ∧ Joins l x k)) := by
  induction h with
  | refl => exact ⟨fun e => by omega, fun _ => Or.inl (.refl _)⟩
  | @step j k y hj hk _ h1 h2 ih =>
    obtain ⟨q1, q2⟩ := ih
    by_cases ej : j = l.length
    · have hJ := q1 ej
      refine ⟨fun _ => hJ, fun hkl => Or.inr ⟨hJ, k, hkl, .refl _, y, by rw [← names_old hkl]; exact h2, ?_⟩⟩
      rw [ej, names_new] at h1
      exact h1
    · have hjl : j < l.length := by omega
      rw [names_old hjl] at h1
      refine ⟨fun ek => ?_, fun hkl => ?_⟩
      · rw [ek, names_new] at h2
        rcases q2 hjl with h | ⟨h, _⟩
        · exact ⟨j, hjl, h, y, h1, h2⟩
        · exact h
      · rw [names_old hkl] at h2
        have hjk : Conn l.length (namesAt l) j k := .step hjl hkl (.refl _) h1 h2
        rcases q2 hjl with h | ⟨h, h'⟩
        · exact Or.inl (h.trans hjk)
        · exact Or.inr ⟨h, h'.conn hjk.symm⟩
theorem joins_new {i : Nat} (h : Joins l x i) : Conn (l.length + 1) (namesAt (l ++ [x])) i l.length := by
  obtain ⟨j, h1, h2, y, h3, h4⟩ := h
  exact .step (by omega) (by omega) (conn_up h2) (by rw [names_old h1]; exact h3) (by rw [names_new]; exact h4)
theorem conn_new {i : Nat} (hi : i < l.length) : Conn (l.length + 1) (namesAt (l ++ [x])) i l.length ↔ Joins l x i := ⟨fun h => (conn_down h hi).1 rfl, joins_new⟩
theorem conn_old {i k : Nat} (hi : i < l.length) (hk : k < l.length) : Conn (l.length + 1) (namesAt (l ++ [x])) i k ↔ (Conn l.length (namesAt l) i k ∨ (Joins l x i ∧ Joins l x k)) :=
  ⟨fun h => (conn_down h hi).2 hk, fun h => by
    rcases h with h | ⟨h, h'⟩
    · exact conn_up h
    · exact (joins_new h).trans (joins_new h').symm⟩
/-- What the law writes down: the numbers of the sets that are joined. -/
def JoinN (l : List Rp) (x : Rp) (A : Nat → Nat) (q j z : Nat) : Prop := (∃ i, i < q ∧ A i = z ∧ ∃ y ∈ namesAt l i, y ∈ namesR x) ∨ (A q = z ∧ ∃ y ∈ (namesAt l q).take j, y ∈ namesR x)
theorem JoinN.next {A : Nat → Nat} {q z : Nat} : JoinN l x A q (namesAt l q).length z ↔ JoinN l x A (q + 1) 0 z := by
  unfold JoinN
  rw [List.take_length, List.take_zero]
  constructor
  · rintro (⟨i, h1, h2⟩ | ⟨h1, h2⟩)
    · exact Or.inl ⟨i, by omega, h2⟩
    · exact Or.inl ⟨q, by omega, h1, h2⟩
  · rintro (⟨i, h1, h2⟩ | ⟨_, y, h2, _⟩)
    · by_cases e : i = q
      · subst e; exact Or.inr h2
      · exact Or.inl ⟨i, by omega, h2⟩
    · simp at h2
theorem JoinN.name {A : Nat → Nat} {q j z : Nat} (hj : j < (namesAt l q).length) : JoinN l x A q (j + 1) z ↔ (JoinN l x A q j z ∨ (A q = z ∧ (namesAt l q)[j] ∈ namesR x)) := by
  unfold JoinN
  rw [← List.take_append_getElem hj]
  constructor
  · rintro (h | ⟨h1, y, h2, h3⟩)
    · exact Or.inl (Or.inl h)
    · rw [List.mem_append, List.mem_singleton] at h2
      rcases h2 with h2 | rfl
      · exact Or.inl (Or.inr ⟨h1, y, h2, h3⟩)
      · exact Or.inr ⟨h1, h3⟩
  · rintro ((h | ⟨h1, y, h2, h3⟩) | ⟨h1, h2⟩)
    · exact Or.inl h
    · exact Or.inr ⟨h1, y, List.mem_append_left _ h2, h3⟩
    · exact Or.inr ⟨h1, _, List.mem_append_right _ (List.mem_singleton.2 rfl), h2⟩
theorem JoinN.start {A : Nat → Nat} {z : Nat} : ¬ JoinN l x A 0 0 z := by
  rintro (⟨i, h, _⟩ | ⟨_, y, h, _⟩)
  · omega
  · simp at h
theorem JoinN.end {r : Nat → Nat} (hr : ∀ a b, a < l.length → b < l.length → (r a = r b ↔ Conn l.length (namesAt l) a b)) {A : Nat → Nat} (hA : ∀ i j, i < l.length → j < l.length → (A i = A j ↔ r i = r j)) {i : Nat} (hi : i < l.length) : JoinN l x A l.length 0 (A i) ↔ Joins l x i := by
  unfold JoinN Joins
  constructor
  · rintro (⟨j, h1, h2, h3⟩ | ⟨_, y, h2, _⟩)
    · exact ⟨j, h1, (hr _ _ hi h1).1 ((hA _ _ h1 hi).1 h2).symm, h3⟩
    · simp at h2
  · rintro ⟨j, h1, h2, h3⟩
    exact Or.inl ⟨j, h1, (hA _ _ h1 hi).2 ((hr _ _ hi h1).2 h2).symm, h3⟩
end Lnk

/-- A map from numbers to Booleans of the call's own, that tells what is so. -/
structure FSt (W : World) (mb c : Nat) (J : Nat → Prop) (w : World) : Prop where
  ex : ∃ cnt f, Below W.heap.size W w ∧ BMap Try.prog 3 w mb cnt f ∧ cnt ≤ c ∧ ∀ z : Nat, (f (.int .i64 z)).getD false = true ↔ J z
section
variable {W w w' : World} {mb c : Nat} {J : Nat → Prop}
theorem FSt.low (h : FSt W mb c J w) : Below W.heap.size W w := by obtain ⟨_, _, h1, _⟩ := h.ex; exact h1
theorem FSt.mono (h : FSt W mb c J w) {c' : Nat} (hc : c ≤ c') : FSt W mb c' J w := by
  obtain ⟨cnt, f, h1, h2, h3, h4⟩ := h.ex
  exact ⟨cnt, f, h1, h2, by omega, h4⟩
theorem FSt.congr (h : FSt W mb c J w) {J' : Nat → Prop} (hJ : ∀ z, J z ↔ J' z) : FSt W mb c J' w := by
  obtain ⟨cnt, f, h1, h2, h3, h4⟩ := h.ex
  exact ⟨cnt, f, h1, h2, h3, fun z => (h4 z).trans (hJ z)⟩
theorem FSt.below (h : FSt W mb c J w) (hb : Below w.heap.size w w') : FSt W mb c J w' := by
  obtain ⟨cnt, f, h1, h2, h3, h4⟩ := h.ex
  exact ⟨cnt, f, below_step h1 hb, h2.below hb h2.lt, h3, h4⟩
theorem FSt.made (hJ : ∀ z, ¬ J z) (h1 : Below W.heap.size W w) (hm : mb = w.heap.size) : FSt W mb 0 J (w.alloc (.map #[] 0)) :=
  ⟨0, fun _ => none, below_alloc h1 _, by rw [hm]; exact BMap.made _ _ _, Nat.le_refl _, fun z => ⟨fun h => (by cases h), fun h => absurd h (hJ z)⟩⟩
set_option maxRecDepth 100000 in
theorem FSt.look (h : FSt W mb c J w) {z : Nat} (hz : z ≤ 1000000) {b : Bool} (hb : b = true ↔ J z) : (Instr.lookup 44 (.map (some mb)) (.int .i64 z) false).run Try.prog w = .ok (.bool b) w := by
  obtain ⟨cnt, f, h1, h2, h3, h4⟩ := h.ex
  have hk := key_int hz
  rw [h2.look intI_keys Try.underlying44 (zero_bool w) hk]
  have : (f (.int .i64 z)).getD false = b := by
    rw [Bool.eq_iff_iff, h4, hb]
  rw [this]
set_option maxRecDepth 100000 in
theorem FSt.put (h : FSt W mb c J w) (hm : W.heap.size ≤ mb) (hc : c < maxLen) {z : Nat} (hz : z ≤ 1000000) :
    ∃ w', (Instr.mapUpdate 44 (.map (some mb)) (.int .i64 z) (.bool true)).run Try.prog w = .ok () w' ∧ FSt W mb (c + 1) (fun y => J y ∨ z = y) w' ∧ w.grownBy w' (some mb) := by
  obtain ⟨cnt, f, h1, h2, h3, h4⟩ := h.ex
  obtain ⟨w', hrun, h6, h7⟩ := h2.put intI_keys Try.underlying44 (by omega) (key_int hz) true
  refine ⟨w', hrun, ⟨cnt + 1, _, h1.grown h7 h1.size (fun y e => by cases e; exact hm), h6, by omega, fun u => ?_⟩, h7⟩
  unfold putF
  by_cases e : u = z
  · subst e; simp
  · have : Value.int .i64 (u : Int) ≠ .int .i64 (z : Int) := fun hh => e (by injection hh with _ hh; omega)
    rw [if_neg this, h4]
    exact ⟨Or.inl, fun h => h.elim id (fun h => absurd h.symm e)⟩
end
end Go.Proofs.Ytolnpimnoajcaaa
