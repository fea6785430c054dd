/- Lists of strings of the call's own: each once. -/
import Derived.Test.YtfkejnnbfneieaaGreatDoorOwnStr
import Derived.Test.YtfkejnnbfneieaaGreatDoorRepValid
import Derived.Test.YtfkejnnbfneieaaGreatDoorEvNames
namespace Go.Proofs.YtfkejnnbfneieaaGreatDoor
open Go.RowKit Go.Sort
open Evt

theorem compact_own (B : Nat) (v : Value) (ss : List (List UInt8)) (hn : ss.length ≤ 1000000) (w : World) (h : OwnS B w v ss) :
    Calls Tryz.prog 59 #[v] w fun e w' => ∃ v', e = .returned v' ∧ OwnS B w' v' (Lib.compact ss) ∧ w.grownBy w' v.ownBlock := by
  have h' := h
  rcases h.2 with ⟨rfl, hnil⟩ | ⟨g, cap, cur, rfl, hbase, hb, h1, h2, h3, h4⟩
  · have hss : ss = [] := List.eq_nil_of_length_eq_zero hnil
    subst hss
    refine (Tryz.slices_Compact_string_empty none 0 w).mono ?_
    rintro e w' ⟨rfl, rfl⟩
    exact ⟨_, rfl, by simpa [Lib.compact, Lib.compactUpTo] using h', ⟨rfl, rfl, rfl, Nat.le_refl _, fun _ _ _ => rfl⟩⟩
  · refine (Tryz.slices_Compact_string g 0 cap ss w (holds_of_block hb (by simpa using h4)) (by omega) h1).mono ?_
    rintro e w' ⟨rfl, q, rfl⟩
    refine ⟨_, rfl, ?_, ?_⟩
    · have hle := Lib.compact_length_le ss
      have := Lib.ownsRow_putRow (q := q) (k := (Lib.compact ss).length) h (ys := Lib.compact ss ++ List.replicate (ss.length - (Lib.compact ss).length) []) (by simp; omega) hle
      rw [List.take_left'  rfl] at this
      exact this
    · refine ⟨rfl, rfl, rfl, by simp [putRow, mapBlock, Sort.ahead], fun k hk hne => ?_⟩
      have : g ≠ k := fun e => hne (by rw [e]; rfl)
      simp [putRow, mapBlock, Sort.ahead, Array.getElem?_modify, this]
end Go.Proofs.YtfkejnnbfneieaaGreatDoor

/- The names of reports: values. -/
namespace Go.Proofs.YtfkejnnbfneieaaGreatDoor
open Go.RowKit Go.Sort
open Evt

namespace Evt
noncomputable def namesL (l : List Ev) : List (List UInt8) := l.flatMap namesE
theorem namesL_len : ∀ (l : List Ev), (namesL l).length ≤ 2 * l.length
  | [] => by simp [namesL]
  | e :: l => by
    have h1 := namesE_len e
    have h2 := namesL_len l
    unfold namesL at h2 ⊢
    rw [List.flatMap_cons, List.length_append, List.length_cons]
    omega
noncomputable def namesR (r : Rp) : List (List UInt8) := if validR r then Lib.compact (srt (namesL r.opts)) else []
theorem mem_compact {zs : List (List UInt8)} {x : List UInt8} : x ∈ Lib.compact zs ↔ x ∈ zs := by
  unfold Lib.compact Lib.compactUpTo
  simp only [List.mem_map, List.mem_filter, List.mem_range]
  have get : ∀ j, j < zs.length → zs.toArray[j]! ∈ zs := fun j hj => by
    have : zs.toArray[j]! = zs[j] := by simp [getElem!_pos, hj]
    rw [this]; exact List.getElem_mem hj
  constructor
  · rintro ⟨j, ⟨hj, _⟩, rfl⟩
    exact get j hj
  · intro hx
    obtain ⟨j, hj, rfl⟩ := List.getElem_of_mem hx
    have key : ∀ j, j < zs.length → ∃ i, (i < zs.length ∧ Lib.keeps zs.toArray i = true) ∧ zs.toArray[i]! = zs.toArray[j]! := by
      intro j
      induction j with
      | zero => intro hj; exact ⟨0, ⟨hj, Lib.keeps_lt_one _ 0 (by omega)⟩, rfl⟩
      | succ j ih =>
        intro hj
        by_cases h : zs.toArray[j + 1]! = zs.toArray[j]!
        · obtain ⟨i, h1, h2⟩ := ih (by omega)
          exact ⟨i, h1, h2.trans h.symm⟩
        · exact ⟨j + 1, ⟨hj, Lib.keeps_pos h⟩, rfl⟩
    obtain ⟨i, h1, h2⟩ := key j hj
    refine ⟨i, h1, h2.trans ?_⟩
    simp [getElem!_pos, hj]
theorem mem_namesR {r : Rp} {x : List UInt8} : x ∈ namesR r ↔ validR r = true ∧ ∃ e ∈ r.opts, x ∈ namesE e := by
  unfold namesR
  by_cases h : validR r = true
  · rw [if_pos h, mem_compact, srt_mem]
    unfold namesL
    rw [List.mem_flatMap]
    exact ⟨fun hh => ⟨h, hh⟩, fun hh => hh.2⟩
  · rw [if_neg h]
    exact ⟨fun hh => by simp at hh, fun hh => absurd hh.1 h⟩
theorem namesR_len (r : Rp) : (namesR r).length ≤ 8 := by
  unfold namesR
  by_cases h : validR r = true
  · rw [if_pos h]
    have h1 := Lib.compact_length_le (srt (namesL r.opts))
    rw [srt_len] at h1
    have h2 := namesL_len r.opts
    have := (validR_len h).2
    omega
  · rw [if_neg h]; simp
theorem okUp_valid {l : List Ev} (h : okUp l l.length = true) : ∀ e ∈ l, valid e = true := fun e he => by
  obtain ⟨k, hk, rfl⟩ := List.getElem_of_mem he
  unfold okUp at h
  have := List.all_eq_true.1 h k (List.mem_range.2 hk)
  rw [List.getElem?_eq_getElem hk] at this
  dsimp only at this
  unfold okAt at this
  rw [Bool.and_eq_true] at this
  exact this.1
end Evt
end Go.Proofs.YtfkejnnbfneieaaGreatDoor
