/- What an event's names are. -/
import Derived.Test.YtbnofoncapaabaaGreatDoorEvNames
import Derived.Test.YtbnofoncapaabaaGreatDoorEvtTextM
import Derived.Sort.Walk0
namespace Go.Proofs.YtbnofoncapaabaaGreatDoor
open Go.RowKit
open Evt

namespace Evt
theorem srt_two (a b : List UInt8) (h : a ≠ b) : ∃ c d, srt [a, b] = [c, d] ∧ c < d ∧ ((c = a ∧ d = b) ∨ (c = b ∧ d = a)) := by
  have hp : (srt [a, b]).Perm [a, b] := by unfold srt; exact List.mergeSort_perm _ _
  have hs : (srt [a, b]).Pairwise (fun x y => decide (x ≤ y) = true) := by
    unfold srt
    exact List.pairwise_mergeSort (le := fun (a b : List UInt8) => decide (a ≤ b)) (fun a b c h1 h2 => decide_eq_true (List.le_trans (of_decide_eq_true h1) (of_decide_eq_true h2))) (fun a b => by
      rcases List.le_total a b with h | h
      · simp [h]
      · simp [h]) _
  have hl : (srt [a, b]).length = 2 := hp.length_eq
  obtain ⟨c, d, e⟩ : ∃ c d, srt [a, b] = [c, d] := by
    match hq : srt [a, b], hl with
    | [c, d], _ => exact ⟨c, d, rfl⟩
  rw [e] at hp hs
  have hcd : ((c = a ∧ d = b) ∨ (c = b ∧ d = a)) := by
    have hc : c ∈ [a, b] := hp.mem_iff.1 (by simp)
    simp only [List.mem_cons, List.not_mem_nil, or_false] at hc
    rcases hc with rfl | rfl
    · have := hp.cons_inv
      exact Or.inl ⟨rfl, by simpa using this⟩
    · have h2 : [c, d].Perm [c, a] := hp.trans (List.Perm.swap _ _ _)
      have := h2.cons_inv
      exact Or.inr ⟨rfl, by simpa using this⟩
  refine ⟨c, d, e, ?_, hcd⟩
  have hle : c ≤ d := by
    have := hs
    simp at this
    exact this
  have hne : c ≠ d := by
    rcases hcd with ⟨rfl, rfl⟩ | ⟨rfl, rfl⟩
    · exact h
    · exact fun e => h e.symm
  by_cases h1 : c < d
  · exact h1
  · exact absurd (List.le_antisymm hle (List.not_lt.1 h1)) hne
theorem into_emp {e : Ev} (h : valid e = true) (h2 : e.op ≠ 2) : e.into = emp := by
  have hr : restOf e = zero := by
    unfold valid at h
    simp only [Bool.and_eq_true] at h
    exact evEq_iff.1 h.2.2.2.2.2.2
  have := congrArg Ev.into hr
  unfold restOf at this
  split at this
  · exact this
  · split at this
    · exact this
    · split at this <;> exact this
theorem nm_pos {s : ByteArray} (h : nm s = true) : s ≠ emp := fun e => by
  rw [e] at h
  exact absurd h (by decide)
theorem names_shape {e : Ev} (h : valid e = true) : (e.op ≠ 2 ∧ namesE e = [bts e.part] ∧ bts e.part ≠ bts e.into) ∨
    (e.op = 2 ∧ ∃ c d, namesE e = [c, d] ∧ Op.bytesLess c d = true ∧ c ≠ d ∧ ((c = bts e.part ∧ d = bts e.into) ∨ (c = bts e.into ∧ d = bts e.part))) := by
  have hv := valid_op h
  have inj : ∀ {a b : ByteArray}, bts a = bts b → a = b := fun {a b} e => by apply ByteArray.ext; apply Array.ext'; exact e
  by_cases h2 : e.op = 2
  · refine Or.inr ⟨h2, ?_⟩
    have hok := hv.2.2.2.2.2
    unfold okE at hok
    rw [if_neg (by omega), if_pos h2, Bool.and_eq_true, Bool.and_eq_true] at hok
    have hne : bts e.part ≠ bts e.into := fun hh => by
      have h3 := hok.2.1
      rw [inj hh] at h3
      simp at h3
    obtain ⟨c, d, e1, e2, e3⟩ := srt_two _ _ hne
    refine ⟨c, d, by unfold namesE; rw [if_pos h, if_pos h2, e1], by rw [bytesLess_eq]; exact decide_eq_true e2, ?_, e3⟩
    rcases e3 with ⟨rfl, rfl⟩ | ⟨rfl, rfl⟩
    · exact hne
    · exact fun e => hne e.symm
  · refine Or.inl ⟨h2, by unfold namesE; rw [if_pos h, if_neg h2], fun hh => ?_⟩
    rw [into_emp h h2] at hh
    exact nm_pos hv.2.2.2.2.1 (inj hh)
theorem names_nm {e : Ev} (h : valid e = true) : ∀ n ∈ namesE e, Lex.nameB n = true := by
  have hv := valid_op h
  intro n hn
  unfold namesE at hn
  rw [if_pos h] at hn
  by_cases h2 : e.op = 2
  · rw [if_pos h2] at hn
    have := srt_mem.1 hn
    simp only [List.mem_cons, List.not_mem_nil, or_false] at this
    rcases this with rfl | rfl
    · exact hv.2.2.2.2.1
    · exact (ok2 h h2).1
  · rw [if_neg h2] at hn
    rw [List.mem_singleton.1 hn]
    exact hv.2.2.2.2.1
end Evt
end Go.Proofs.YtbnofoncapaabaaGreatDoor
