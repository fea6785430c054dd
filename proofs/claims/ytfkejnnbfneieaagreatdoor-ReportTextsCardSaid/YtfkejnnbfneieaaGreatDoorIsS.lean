/- Lists of strings in memory. -/
import Derived.Test.YtfkejnnbfneieaaGreatDoorEvNames
import Derived.Test.YtfkejnnbfneieaaGreatDoorMonoG
namespace Go.Proofs.YtfkejnnbfneieaaGreatDoor
open Go.RowKit
open Evt

theorem owns_whole_put {w : World} {B : Nat} {e : TypeId} {v : Value} {n : Nat} {xs : List Value} (h : w.ownsRow B e 1 v n xs) {t : Nat} (ht : t < n) : ∃ g cap, v = .slice (some ⟨g, 0, none⟩) n cap ∧ B ≤ g ∧ (∃ cur, Whole w g e cur) ∧ ∀ (j : Nat) (u : Value), xs[j]? = some u → w.cell? ⟨g, j, none⟩ = some u := by
  rcases h.2 with ⟨_, h1⟩ | ⟨g, cap, cur, rfl, hb, hw, hle, hm, hcs, htk⟩
  · omega
  · refine ⟨g, cap, rfl, hb, ⟨cur, hw⟩, fun j u hu => ?_⟩
    rw [Whole.cell hw, ← Array.getElem?_toList]
    rw [← htk] at hu
    have hj : j < n * 1 := by have := (List.getElem?_eq_some_iff.1 hu).1; simp at this; omega
    rwa [List.getElem?_take_of_lt hj] at hu
def IsS (W : World) (v : Value) (ss : List (List UInt8)) : Prop := ∃ ao c, v = .slice ao ss.length c ∧ ∀ j (h : j < ss.length), ∃ b, ao = some ⟨b, 0, none⟩ ∧ b < W.heap.size ∧ W.cell? ⟨b, j, none⟩ = some (.string ⟨ss[j].toArray⟩)
theorem IsS.below {W w : World} {v : Value} {l : List (List UInt8)} (h : IsS W v l) (hb : Below W.heap.size W w) : IsS w v l := by
  obtain ⟨ao, c, e, h1⟩ := h
  exact ⟨ao, c, e, fun j hj => by obtain ⟨b, h2, h3, h4⟩ := h1 j hj; exact ⟨b, h2, Nat.lt_of_lt_of_le h3 hb.size, (cellB hb h3).trans h4⟩⟩
theorem IsS.owns {B : Nat} {W : World} {v : Value} {ss : List (List UInt8)} (h : OwnS B W v ss) : IsS W v ss := by
  obtain ⟨ao, c, rfl⟩ := h.shape
  refine ⟨ao, c, rfl, fun j hj => ?_⟩
  obtain ⟨g, cp, e, _, ⟨cur, hw⟩, hc⟩ := owns_whole_put h hj
  injection e with e _ _
  refine ⟨g, e, hw.lt, hc j _ ?_⟩
  rw [List.getElem?_map, List.getElem?_eq_getElem hj]
  rfl
theorem eq_listL {s : List UInt8} {t : ByteArray} : ((⟨s.toArray⟩ : ByteArray).toList == t.toList) = decide (s = bts t) := by
  have e : ∀ a b : ByteArray, (a.toList == b.toList) = decide (a = b) := fun a b => by
    by_cases h : a = b
    · subst h; simp
    · rw [decide_eq_false h]
      exact beq_eq_false_iff_ne.2 (by rw [ByteArray.toList_eq, ByteArray.toList_eq]; exact fun e => h (by apply ByteArray.ext; apply Array.ext'; exact e))
  rw [e]
  congr 1
  refine propext ⟨fun h => ?_, fun h => ?_⟩
  · rw [← h]; rfl
  · rw [h]; rfl
end Go.Proofs.YtfkejnnbfneieaaGreatDoor
