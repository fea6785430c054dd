/- What records of members that give a hold back make of it. -/
import Derived.Test.YtfokbcakbbdlaaaHldRefM
import Derived.Test.YtfokbcakbbdlaaaHldOps
namespace Go.Proofs.Ytfokbcakbbdlaaa
open Hld (Rc Hd)

namespace Hld
def noneB : ByteArray := ⟨#[110, 111, 110, 101]⟩
/-- A record by which a member gives a hold back. -/
def eb (id : ByteArray) (m : Int) : ByteArray × Rc := (noneB, mkR 6 m id ⟨#[]⟩ [] none 0)
theorem all_after (P : List (ByteArray × Rc)) : ∀ (n : Nat) (X : List (ByteArray × Rc)), X.length = n → (∀ x ∈ X, x.2.kind ≠ 5) → allF (P ++ X) = (allF P).map (backF X)
  | 0, X, hn, _ => by
    obtain rfl : X = [] := List.eq_nil_of_length_eq_zero hn
    rw [List.append_nil]
    exact ((List.map_congr_left (fun h _ => rfl)).trans (List.map_id _)).symm
  | n + 1, X, hn, h5 => by
    have hne : X ≠ [] := by intro e; rw [e] at hn; simp at hn
    obtain ⟨Y, x, rfl⟩ : ∃ Y x, X = Y ++ [x] := ⟨X.dropLast, X.getLast hne, (List.dropLast_concat_getLast hne).symm⟩
    have ih := all_after P n Y (by rw [List.length_append] at hn; simpa using hn) (fun y hy => h5 y (List.mem_append_left _ hy))
    have hm : makes x.2 = false := by unfold makes; rw [decide_eq_false (h5 x (List.mem_append_right _ (List.mem_singleton.2 rfl)))]; rfl
    rw [← List.append_assoc, allF_snoc, step_gv, hm, ih]
    simp only [Bool.false_and, Bool.false_eq_true, if_false, List.append_nil, List.map_map]
    exact List.map_congr_left fun h _ => (backF_snoc Y x h).symm
theorem back_more (id : ByteArray) : ∀ (A : List Int) (h : Hd), h.id = id → (∀ a ∈ A, a ∈ h.members) →
    (backF (A.map (eb id)) h).id = id ∧ (backF (A.map (eb id)) h).members = h.members ∧ ∀ m, (backF (A.map (eb id)) h).back.contains m = (h.back.contains m || A.contains m)
  | [], h, hi, _ => ⟨hi, rfl, fun m => by show h.back.contains m = _; simp⟩
  | a :: A, h, hi, hA => by
    have ha : a ∈ h.members := hA a (List.mem_cons_self ..)
    have hac : h.members.contains a = true := by simpa using ha
    have e : backF ((a :: A).map (eb id)) h = backF (A.map (eb id)) (gv (eb id a).2 h) := rfl
    have e1 : gv (eb id a).2 h = if h.back.contains a then h else { h with back := h.back ++ [a] } := by
      unfold gv give gives
      rw [if_pos (show (eb id a).2.kind = 6 from rfl)]
      have h1 : (eb id a).2.target = h.id := hi.symm
      have h2 : (eb id a).2.author = a := rfl
      rw [decide_eq_true h1, h2, hac]
      cases h.back.contains a <;> rfl
    have hg : ∀ m, (gv (eb id a).2 h).back.contains m = (h.back.contains m || decide (m = a)) := fun m => by
      rw [e1]
      by_cases hb : h.back.contains a = true
      · rw [if_pos hb]
        by_cases hm : m = a
        · subst hm; rw [hb]; rfl
        · rw [decide_eq_false hm, Bool.or_false]
      · rw [if_neg hb]
        show (h.back ++ [a]).contains m = _
        rw [List.contains_eq_mem, List.contains_eq_mem]
        simp [List.mem_append]
    obtain ⟨i1, i2, i3⟩ := back_more id A (gv (eb id a).2 h) (by rw [e1]; split <;> exact hi) (fun b hb => by
      have : (gv (eb id a).2 h).members = h.members := by rw [e1]; split <;> rfl
      rw [this]; exact hA b (List.mem_cons_of_mem _ hb))
    rw [e]
    refine ⟨i1, i2.trans (by rw [e1]; split <;> rfl), fun m => ?_⟩
    rw [i3 m, hg m, List.contains_cons, Bool.or_assoc]
    rfl
/-- All the members but the last one (and whoever is the same). -/
def auth (ms : List Int) (last : Int) (k : Nat) : List Int := (ms.take k).filter fun m => !decide (m = last)
theorem auth_zero (ms : List Int) (last : Int) : auth ms last 0 = [] := rfl
theorem auth_next {ms : List Int} {last : Int} {k : Nat} (hk : k < ms.length) : auth ms last (k + 1) = if ms[k] = last then auth ms last k else auth ms last k ++ [ms[k]] := by
  unfold auth
  rw [← List.take_append_getElem hk, List.filter_append]
  by_cases h : ms[k] = last
  · rw [if_pos h]; simp [h]
  · rw [if_neg h]; simp [h]
theorem auth_mem {ms : List Int} {last : Int} {k : Nat} : ∀ a ∈ auth ms last k, a ∈ ms := fun _ ha => List.mem_of_mem_take (List.mem_filter.1 ha).1
theorem auth_len (ms : List Int) (last : Int) (k : Nat) : (auth ms last k).length ≤ ms.length := Nat.le_trans (List.length_filter_le ..) (by rw [List.length_take]; omega)
theorem most_out {h : Hd} {nn : Nat} (hn : h.members.length = nn + 1) : out (backF ((auth h.members (h.members[nn]'(by omega)) nn).map (eb h.id)) h) = !h.back.contains (h.members[nn]'(by omega)) := by
  have hl : nn < h.members.length := by omega
  obtain ⟨i1, i2, i3⟩ := back_more h.id (auth h.members h.members[nn] nn) h rfl auth_mem
  have hall : h.members = h.members.take nn ++ [h.members[nn]] := by rw [List.take_append_getElem hl, List.take_of_length_le (by omega)]
  unfold out
  rw [i2]
  cases hb : h.back.contains h.members[nn] with
  | true =>
    rw [Bool.not_true, List.any_eq_false]
    intro m hm
    rw [i3 m]
    by_cases e : m = h.members[nn]
    · rw [e, hb]; simp
    · have : m ∈ auth h.members h.members[nn] nn := by
        rw [hall, List.mem_append, List.mem_singleton] at hm
        rcases hm with hm | hm
        · exact List.mem_filter.2 ⟨hm, by simp [e]⟩
        · exact absurd hm e
      have h2 : (auth h.members h.members[nn] nn).contains m = true := by simpa using this
      rw [h2]; simp
  | false =>
    rw [Bool.not_false, List.any_eq_true]
    refine ⟨h.members[nn], List.getElem_mem hl, ?_⟩
    rw [i3, hb]
    have : h.members[nn] ∉ auth h.members h.members[nn] nn := fun hm => by simpa using (List.mem_filter.1 hm).2
    simpa using this
theorem full_out {h : Hd} {nn : Nat} (hn : h.members.length = nn + 1) : out (backF (((auth h.members (h.members[nn]'(by omega)) nn) ++ [h.members[nn]'(by omega)]).map (eb h.id)) h) = false := by
  have hl : nn < h.members.length := by omega
  obtain ⟨i1, i2, i3⟩ := back_more h.id (auth h.members h.members[nn] nn ++ [h.members[nn]]) h rfl (fun a ha => by
    rcases List.mem_append.1 ha with ha | ha
    · exact auth_mem a ha
    · rw [List.mem_singleton.1 ha]; exact List.getElem_mem hl)
  have hall : h.members = h.members.take nn ++ [h.members[nn]] := by rw [List.take_append_getElem hl, List.take_of_length_le (by omega)]
  unfold out
  rw [i2, List.any_eq_false]
  intro m hm
  rw [i3 m]
  have : m ∈ auth h.members h.members[nn] nn ++ [h.members[nn]] := by
    by_cases e : m = h.members[nn]
    · rw [e]; exact List.mem_append_right _ (List.mem_singleton.2 rfl)
    · rw [hall, List.mem_append, List.mem_singleton] at hm
      rcases hm with hm | hm
      · exact List.mem_append_left _ (List.mem_filter.2 ⟨hm, by simp [e]⟩)
      · exact absurd hm e
  have h2 : (auth h.members h.members[nn] nn ++ [h.members[nn]]).contains m = true := by simpa using this
  rw [h2]; simp
theorem some_fold : ∀ (l : List (ByteArray × Rc)) (hs : List Hd), (∀ h ∈ hs, h.members ≠ []) → ∀ h ∈ l.foldl step hs, h.members ≠ []
  | [], _, h => h
  | x :: l, hs, h => some_fold l (step hs x) fun y hy => by
    rw [step_gv, List.mem_append] at hy
    rcases hy with hy | hy
    · obtain ⟨z, hz, rfl⟩ := List.mem_map.1 hy
      have : (gv x.2 z).members = z.members := by
        unfold gv
        split
        · exact give_members x.2 z
        · rfl
      rw [this]
      exact h z hz
    · by_cases hm : makes x.2 = true
      · split at hy
        · rw [List.mem_singleton.1 hy]
          unfold makes at hm
          simp only [Bool.and_eq_true, decide_eq_true_eq] at hm
          exact hm.2
        · simp at hy
      · have hm2 : makes x.2 = false := by simpa using hm
        rw [hm2] at hy
        simp at hy
theorem all_some (l : List (ByteArray × Rc)) : ∀ h ∈ allF l, h.members ≠ [] := some_fold l [] (by intro h hh; simp at hh)
end Hld
end Go.Proofs.Ytfokbcakbbdlaaa
