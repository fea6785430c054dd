/- The reference's put as mathematics: what it makes of a list of names, one after the other, is what sorting and compacting makes; strictly increasing lists. -/
import Derived.Test.YtknphmkblcbabaaGreatDoorRepNamesW
import Derived.Sort.Walk0
namespace Go.Proofs.YtknphmkblcbabaaGreatDoor
open Go.RowKit Go.Sort
open Evt

namespace Evt
theorem srt_pw (ss : List (List UInt8)) : (srt ss).Pairwise (fun a b => decide (a ≤ b) = true) := by
  unfold srt
  exact List.pairwise_mergeSort (le := fun (a b : List UInt8) => decide (a ≤ b)) (fun a b c h1 h2 => decide_eq_true (List.le_trans (of_decide_eq_true h1) (of_decide_eq_true h2))) (fun a b => by
    rcases List.le_total a b with h | h
    · simp [h]
    · simp [h]) _
/-- Where a text belongs. -/
def putAt (ss : List (List UInt8)) (s : List UInt8) : Nat := (ss.takeWhile fun y => decide (y < s)).length
def putF (ss : List (List UInt8)) (s : List UInt8) : List (List UInt8) := if ss[putAt ss s]? = some s then ss else ss.take (putAt ss s) ++ [s] ++ ss.drop (putAt ss s)
theorem putAt_le (ss : List (List UInt8)) (s : List UInt8) : putAt ss s ≤ ss.length := (List.takeWhile_prefix _).length_le
theorem put_before {ss : List (List UInt8)} {s : List UInt8} {j : Nat} (h : j < putAt ss s) : ∃ hj : j < ss.length, ss[j] < s := by
  have hj : j < ss.length := Nat.lt_of_lt_of_le h (putAt_le ss s)
  refine ⟨hj, ?_⟩
  have hm : (ss.takeWhile fun y => decide (y < s))[j]'h ∈ ss.takeWhile fun y => decide (y < s) := List.getElem_mem _
  have h2 := List.all_eq_true.1 (List.all_takeWhile (p := fun y => decide (y < s)) (l := ss)) _ hm
  have h3 : (ss.takeWhile fun y => decide (y < s))[j]'h = ss[j] := List.IsPrefix.getElem (List.takeWhile_prefix _) h
  rw [h3] at h2
  exact of_decide_eq_true h2
theorem put_stop {ss : List (List UInt8)} {s : List UInt8} (h : putAt ss s < ss.length) : ¬ ss[putAt ss s] < s := by
  have key : ∀ (l : List (List UInt8)) (h : (l.takeWhile fun y => decide (y < s)).length < l.length), ¬ l[(l.takeWhile fun y => decide (y < s)).length] < s := by
    intro l
    induction l with
    | nil => intro h; simp at h
    | cons a l ih =>
      intro h
      by_cases ha : a < s
      · have e : (a :: l).takeWhile (fun y => decide (y < s)) = a :: l.takeWhile (fun y => decide (y < s)) := by rw [List.takeWhile_cons, if_pos (decide_eq_true ha)]
        simp only [e, List.length_cons] at h ⊢
        exact ih (by omega)
      · have e : (a :: l).takeWhile (fun y => decide (y < s)) = [] := by rw [List.takeWhile_cons, if_neg (by simpa using ha)]
        simp only [e]
        exact ha
  exact key ss h
theorem putAt_unique {ss : List (List UInt8)} {s : List UInt8} {k : Nat} (hk : k ≤ ss.length) (h1 : ∀ j (hj : j < ss.length), j < k → ss[j] < s) (h2 : ∀ hj : k < ss.length, ¬ ss[k] < s) : putAt ss s = k := by
  rcases Nat.lt_trichotomy (putAt ss s) k with h | h | h
  · have hl : putAt ss s < ss.length := by omega
    exact absurd (h1 _ hl h) (put_stop hl)
  · exact h
  · obtain ⟨hj, hlt⟩ := put_before h
    exact absurd hlt (h2 hj)
/-- Strictly increasing. -/
def Strict (ss : List (List UInt8)) : Prop := ss.Pairwise (· < ·)
theorem lt_of_not {a b : List UInt8} (h : ¬ a < b) (hne : a ≠ b) : b < a := by
  rcases List.le_total a b with h1 | h1
  · rcases List.le_iff_lt_or_eq.1 h1 with h2 | h2
    · exact absurd h2 h
    · exact absurd h2 hne
  · rcases List.le_iff_lt_or_eq.1 h1 with h2 | h2
    · exact h2
    · exact absurd h2.symm hne
theorem put_mem {ss : List (List UInt8)} {s x : List UInt8} : x ∈ putF ss s ↔ (x ∈ ss ∨ x = s) := by
  unfold putF
  split
  · rename_i h
    exact ⟨Or.inl, fun hh => hh.elim id (fun e => by rw [e]; exact List.mem_of_getElem? h)⟩
  · rw [List.mem_append, List.mem_append, List.mem_singleton]
    conv => rhs; rw [← List.take_append_drop (putAt ss s) ss, List.mem_append]
    constructor
    · rintro ((h | h) | h)
      · exact Or.inl (Or.inl h)
      · exact Or.inr h
      · exact Or.inl (Or.inr h)
    · rintro ((h | h) | h)
      · exact Or.inl (Or.inl h)
      · exact Or.inr h
      · exact Or.inl (Or.inr h)
theorem put_strict {ss : List (List UInt8)} {s : List UInt8} (h : Strict ss) : Strict (putF ss s) := by
  unfold putF
  split
  · exact h
  · rename_i hne
    have hp := List.pairwise_iff_getElem.1 h
    unfold Strict
    rw [List.append_assoc, List.pairwise_append]
    refine ⟨h.sublist (List.take_sublist _ _), ?_, ?_⟩
    · rw [List.singleton_append, List.pairwise_cons]
      refine ⟨fun y hy => ?_, h.sublist (List.drop_sublist _ _)⟩
      obtain ⟨j, hj, rfl⟩ := List.getElem_of_mem hy
      rw [List.length_drop] at hj
      rw [List.getElem_drop]
      have hl : putAt ss s < ss.length := by omega
      have h0 : s < ss[putAt ss s] := lt_of_not (put_stop hl) (fun e => hne (by rw [List.getElem?_eq_getElem hl, e]))
      by_cases hj0 : j = 0
      · subst hj0; exact h0
      · exact List.lt_trans h0 (hp (putAt ss s) (putAt ss s + j) hl (by omega) (by omega))
    · intro a ha b hb
      obtain ⟨i, hi, rfl⟩ := List.getElem_of_mem ha
      rw [List.length_take] at hi
      rw [List.getElem_take]
      obtain ⟨hil, his⟩ := put_before (ss := ss) (s := s) (j := i) (by omega)
      rw [List.singleton_append, List.mem_cons] at hb
      rcases hb with rfl | hb
      · exact his
      · obtain ⟨j, hj, rfl⟩ := List.getElem_of_mem hb
        rw [List.length_drop] at hj
        rw [List.getElem_drop]
        exact hp i (putAt ss s + j) hil (by omega) (by omega)
theorem put_len (ss : List (List UInt8)) (s : List UInt8) : (putF ss s).length ≤ ss.length + 1 := by
  unfold putF
  split
  · omega
  · simp only [List.length_append, List.length_take, List.length_singleton, List.length_drop]; omega
def putAll (ss l : List (List UInt8)) : List (List UInt8) := l.foldl putF ss
theorem putAll_mem {x : List UInt8} : ∀ {l ss : List (List UInt8)}, x ∈ putAll ss l ↔ (x ∈ ss ∨ x ∈ l)
  | [], ss => by simp [putAll]
  | s :: l, ss => by
    have := putAll_mem (x := x) (l := l) (ss := putF ss s)
    unfold putAll at this ⊢
    rw [List.foldl_cons, this, put_mem, List.mem_cons, or_assoc]
theorem putAll_strict : ∀ {l ss : List (List UInt8)}, Strict ss → Strict (putAll ss l)
  | [], ss, h => h
  | s :: l, ss, h => by
    have := putAll_strict (l := l) (put_strict (s := s) h)
    unfold putAll at this ⊢
    exact this
theorem strict_unique : ∀ {a b : List (List UInt8)}, Strict a → Strict b → (∀ x, x ∈ a ↔ x ∈ b) → a = b
  | [], [], _, _, _ => rfl
  | [], y :: b, _, _, h => by have := (h y).2 (List.mem_cons_self ..); simp at this
  | x :: a, [], _, _, h => by have := (h x).1 (List.mem_cons_self ..); simp at this
  | x :: a, y :: b, ha, hb, h => by
    have ha' := List.pairwise_cons.1 ha
    have hb' := List.pairwise_cons.1 hb
    have hxy : x = y := by
      have h1 := (h x).1 (List.mem_cons_self ..)
      have h2 := (h y).2 (List.mem_cons_self ..)
      rcases List.mem_cons.1 h1 with e | e
      · exact e
      · rcases List.mem_cons.1 h2 with e2 | e2
        · exact e2.symm
        · exact absurd (List.lt_trans (hb'.1 x e) (ha'.1 y e2)) (List.lt_irrefl _)
    subst hxy
    congr 1
    refine strict_unique ha'.2 hb'.2 fun z => ⟨fun hz => ?_, fun hz => ?_⟩
    · rcases List.mem_cons.1 ((h z).1 (List.mem_cons_of_mem _ hz)) with e | e
      · subst e; exact absurd (ha'.1 z hz) (List.lt_irrefl _)
      · exact e
    · rcases List.mem_cons.1 ((h z).2 (List.mem_cons_of_mem _ hz)) with e | e
      · subst e; exact absurd (hb'.1 z hz) (List.lt_irrefl _)
      · exact e
theorem compact_strict {zs : List (List UInt8)} (h : zs.Pairwise (fun a b => decide (a ≤ b) = true)) : Strict (Lib.compact zs) := by
  unfold Strict Lib.compact Lib.compactUpTo
  have hp := List.pairwise_iff_getElem.1 h
  rw [List.pairwise_map]
  refine ((List.pairwise_lt_range (n := zs.length)).sublist List.filter_sublist).imp_of_mem ?_
  intro i j hi hj hij
  have hjl : j < zs.length := by simpa using (List.mem_filter.1 hj).1
  have hil : i < zs.length := by omega
  have hk := (List.mem_filter.1 hj).2
  have gi : zs.toArray[i]! = zs[i] := by simp [getElem!_pos, hil]
  have gj : zs.toArray[j]! = zs[j] := by simp [getElem!_pos, hjl]
  rw [gi, gj]
  obtain ⟨q, rfl⟩ : ∃ q, j = q + 1 := ⟨j - 1, by omega⟩
  have hql : q < zs.length := by omega
  have hne : zs[q + 1] ≠ zs[q] := fun e => by
    have gq : zs.toArray[q]! = zs[q] := by simp [getElem!_pos, hql]
    have : zs.toArray[q + 1]! = zs.toArray[q]! := by rw [gj, gq]; exact e
    have := Lib.keeps_neg (m := q + 1) (by omega) this
    rw [hk] at this
    cases this
  have h1 : zs[q] ≤ zs[q + 1] := of_decide_eq_true (hp q (q + 1) hql hjl (by omega))
  have h2 : zs[q] < zs[q + 1] := by
    rcases List.le_iff_lt_or_eq.1 h1 with h | h
    · exact h
    · exact absurd h.symm hne
  by_cases e : i = q
  · subst e; exact h2
  · have h3 : zs[i] ≤ zs[q] := of_decide_eq_true (hp i q hil hql (by omega))
    exact List.lt_of_le_of_lt h3 h2
theorem putAll_srt (l : List (List UInt8)) : putAll [] l = Lib.compact (srt l) :=
  strict_unique (putAll_strict List.Pairwise.nil) (compact_strict (srt_pw l)) fun x => by
    rw [putAll_mem, mem_compact, srt_mem]; simp
end Evt
theorem less_bts {s : List UInt8} {x : ByteArray} : Op.bytesLess (⟨s.toArray⟩ : ByteArray).toList x.toList = decide (s < bts x) := by
  rw [bytesLess_eq, ByteArray.toList_eq, ByteArray.toList_eq]
  rfl
theorem bts_mkP (s : List UInt8) : bts ⟨s.toArray⟩ = s := by unfold bts; simp
end Go.Proofs.YtknphmkblcbabaaGreatDoor
