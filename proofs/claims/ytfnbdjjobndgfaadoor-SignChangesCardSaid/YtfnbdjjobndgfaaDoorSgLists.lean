/- Lists of texts as arguments: what their cells hold; the walks of 'Few' and 'Same', and of digests of lists whatever the list is. -/
import Derived.Test.YtfnbdjjobndgfaaDoorSgHead
import Derived.Test.YtfnbdjjobndgfaaDoorOpenSl
namespace Go.Proofs.YtfnbdjjobndgfaaDoor
open Go.RowKit

/-- At most 30 texts of at most m bytes. -/
def fewB (ss : List ByteArray) (m : Int) : Bool := ss.all (fun s => decide ((s.size : Int) ≤ m)) && decide (ss.length ≤ 30)
theorem fewB_at (ss : List ByteArray) (m : Int) (k : Nat) (h : k < ss.length) (hc : m < ss[k].size) : fewB ss m = false := by
  unfold fewB
  rw [Bool.and_eq_false_iff]
  refine Or.inl ?_
  rw [List.all_eq_false]
  exact ⟨ss[k], List.getElem_mem h, by simp; omega⟩
theorem fewB_all (ss : List ByteArray) (m : Int) (h : ∀ j, (hj : j < ss.length) → (ss[j].size : Int) ≤ m) : fewB ss m = decide (ss.length ≤ 30) := by
  unfold fewB
  have : ss.all (fun s => decide ((s.size : Int) ≤ m)) = true := by
    rw [List.all_eq_true]
    intro c hc
    obtain ⟨j, hj, rfl⟩ := List.getElem_of_mem hc
    simpa using h j hj
  rw [this]; rfl
theorem fewB_iff (ss : List ByteArray) (m : Int) : fewB ss m = true ↔ (∀ s ∈ ss, (s.size : Int) ≤ m) ∧ ss.length ≤ 30 := by
  unfold fewB
  rw [Bool.and_eq_true, List.all_eq_true, decide_eq_true_iff]
  simp

set_option maxHeartbeats 2000000 in
theorem list_none (ao : Option Addr) (cap : Nat) (w : World) :
    Calls Tryd.prog 54 #[.slice ao 0 cap] w fun e w' => e = .returned (.string (digestOf [])) ∧ Below w.heap.size w w' := by
  go_enter Tryd.func54, Tryd.ntmps54
  go_wp2_with fail
  refine (text_none ao cap w).mono ?_
  rintro e w1 ⟨rfl, hb1⟩
  go_wp2_with fail
  refine (sumD_any ⟨#[]⟩ (by decide) w1).mono ?_
  rintro e w2 ⟨rfl, hb2⟩
  go_wp2
  go_ret
  exact ⟨rfl, hb1.trans (hb2.mono hb1.size)⟩

/-- The texts of a list. -/
def bytesOf (ss : List ByteArray) : List (List UInt8) := ss.map fun s => s.data.toList
theorem decDigits_le (u : Nat) (h : u < 1000) : (Lib.decDigits u).length ≤ 20 := by
  rw [Lib.decDigits_length]
  by_cases h1 : u < 10
  · rw [Lib.nDigits_small h1]; omega
  · rw [Lib.nDigits_big h1]
    by_cases h2 : u / 10 < 10
    · rw [Lib.nDigits_small h2]; omega
    · rw [Lib.nDigits_big h2, Lib.nDigits_small (by omega)]; omega
theorem joinText_le (l : List (List UInt8)) (h : ∀ s ∈ l, s.length ≤ 300) (hn : l.length ≤ 30) : (joinText l).length ≤ 9630 := by
  have hd : ∀ s ∈ l, (Lib.decDigits s.length ++ [58] ++ s).length ≤ 321 := by
    intro s hs
    have h1 := h s hs
    have h2 : (Lib.decDigits s.length).length ≤ 20 := decDigits_le _ (by omega)
    simp only [List.length_append, List.length_cons, List.length_nil]
    omega
  have : ∀ m : List (List UInt8), (∀ s ∈ m, s ∈ l) → (joinText m).length ≤ 321 * m.length := by
    intro m
    induction m with
    | nil => intro _; simp [joinText]
    | cons a m ih =>
      intro hm
      have e : joinText (a :: m) = (Lib.decDigits a.length ++ [58] ++ a) ++ joinText m := by simp [joinText]
      have h1 := ih fun s hs => hm s (by simp [hs])
      have h2 := hd a (hm a (by simp))
      rw [e, List.length_append, List.length_cons]
      omega
  have := this l fun _ h => h
  omega

theorem list_any (ao : Option Addr) (ss : List ByteArray) (cap : Nat) (w : World) (ht : Tab w) (h : IsStrs w ao ss) (hf : fewB ss 300 = true) :
    Calls Tryd.prog 54 #[.slice ao ss.length cap] w fun e w' => e = .returned (.string (digestOf (joinText (bytesOf ss)))) ∧ Below w.heap.size w w' := by
  obtain ⟨h200, h30⟩ := (fewB_iff _ _).1 hf
  rcases h with h | ⟨bk, off, rfl, h2, h3⟩
  · subst h
    exact list_none ao cap w
  · have hj : (joinText (bytesOf ss)).length ≤ 9630 := joinText_le _ (by
      intro s hs
      obtain ⟨a, ha, rfl⟩ := List.mem_map.1 hs
      have := h200 a ha
      have e : a.data.toList.length = a.size := rfl
      rw [e]; omega) (by simpa [bytesOf] using h30)
    exact list_some ss bk off cap w ht h2 (by omega) (by have := hj; unfold bytesOf at this; omega) h3 (fun s hs => by have := h200 s hs; omega)

end Go.Proofs.YtfnbdjjobndgfaaDoor
