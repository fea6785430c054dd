/- Lists of Booleans as arguments. -/
import Derived.Test.YtejgbfaampllaaaTskIs
import Derived.Deep.Grids
namespace Go.Proofs.Ytejgbfaampllaaa
open Go.ChangeShapes Go.WideShapes Go.ChangeAt Go.RowKit Go.Deep

/-- A list of Booleans lies behind this address. -/
def IsBools (W : World) (ao : Option Addr) (bs : List Bool) : Prop :=
  bs = [] ∨ ∃ bk off, ao = some ⟨bk, off, none⟩ ∧ bk < W.heap.size ∧ ∀ k, (h : k < bs.length) → W.cell? ⟨bk, off + k, none⟩ = some (.bool bs[k])
theorem IsBools.below {W W' : World} {ao : Option Addr} {bs : List Bool} (h : IsBools W ao bs) (hb : Below W.heap.size W W') : IsBools W' ao bs := by
  rcases h with h | ⟨bk, off, h1, h2, h3⟩
  · exact Or.inl h
  · exact Or.inr ⟨bk, off, h1, Nat.lt_of_lt_of_le h2 hb.size, fun k hk => by rw [hb.cell (p := ⟨bk, off + k, none⟩) h2]; exact h3 k hk⟩
theorem IsBools.at {W : World} {ao : Option Addr} {bs : List Bool} (h : IsBools W ao bs) {k : Nat} (hk : k < bs.length) : ∃ bk off, ao = some ⟨bk, off, none⟩ ∧ bk < W.heap.size ∧ W.cell? ⟨bk, off + k, none⟩ = some (.bool bs[k]) := by
  rcases h with h | ⟨bk, off, h1, h2, h3⟩
  · subst h; simp at hk
  · exact ⟨bk, off, h1, h2, h3 k hk⟩
section
variable {H : Type} {enc : TypeId × Value → H} {P : Program} {W : World} {spare : Nat → Bool} {held : Bool} {t e : TypeId} {v : Value} {d : DataW H} {p : List MemPlace}
theorem open_bools_wide (ht : P.underlying t = some (.slice e)) (he : P.underlying e = some .bool) (hc : P.cellsOf e = 1) (hval : ∃ a len cap, v = .slice a len cap)
    (h : DataW.Trod enc P W 0 spare held t v d p) : ∃ ao bs cap, v = .slice ao bs.length cap ∧ IsBools W ao bs ∧ bs.length ≤ 9223372036854775807 := by
  obtain ⟨a0, len0, cap0, rfl⟩ := hval
  obtain ⟨fuel, hf⟩ := h
  rcases open_slice1 ht hc hf with ⟨hcs, _⟩ | ⟨a, len, cap, m, n, V, D, Pl, hcs, _, hl, hm, hmm, _, hi⟩
  · have : Value.slice a0 len0 cap0 = .slice none 0 0 := by simpa [Value.cells] using hcs
    exact ⟨none, [], 0, by rw [this]; rfl, Or.inl rfl, by simp⟩
  · have e : Value.slice a0 len0 cap0 = .slice (some a) len cap := by simpa [Value.cells] using hcs
    have hlm : len ≤ m := by rw [hmm]; split <;> omega
    have key : ∀ i, ∃ b : Bool, i < len → W.cell? (a.add i) = some (.bool b) := by
      intro i
      by_cases hil : i < len
      · obtain ⟨h1, h2⟩ := hi i (by omega)
        obtain ⟨b, hb, -⟩ := DataW.trod_bool he h2
        simp only [List.cons.injEq, and_true] at hb
        exact ⟨b, fun _ => by rw [h1, hb]⟩
      · exact ⟨false, fun hh => absurd hh hil⟩
    obtain ⟨f, hff⟩ := Classical.axiomOfChoice key
    have hlen : ((List.range len).map f).length = len := by simp
    refine ⟨some a, (List.range len).map f, cap, by rw [e, hlen], ?_, by rw [hlen]; unfold maxLen at hm; omega⟩
    by_cases h0 : len = 0
    · exact Or.inl (by rw [h0]; rfl)
    · obtain ⟨bk, off, spot⟩ := a
      have h1 := hff 0 (by omega)
      have hspot : spot = none := by simpa [Addr.add] using World.cell?_spot h1
      subst hspot
      have hadd : ∀ k, (⟨bk, off, none⟩ : Addr).add k = ⟨bk, off + k, none⟩ := fun k => by simp [Addr.add]
      refine Or.inr ⟨bk, off, rfl, ?_, fun k hk => ?_⟩
      · rw [hadd] at h1
        exact lt_of_cell h1
      · have h2 := hff k (by simpa using hk)
        rw [hadd] at h2
        rw [h2]
        simp
end

end Go.Proofs.Ytejgbfaampllaaa
