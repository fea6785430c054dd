/- Lists of numbers as arguments of a statement that gives no reach: the length has still the world's own bound. -/
import Derived.Test.YtejgbfaampllaaaOpenSl
namespace Go.Proofs.Ytejgbfaampllaaa
open Go.ChangeShapes Go.WideShapes Go.ChangeAt Go.RowKit

section
variable {H : Type} {enc : TypeId × Value → H} {P : Program} {W : World} {base : Nat} {spare : Nat → Bool} {held : Bool} {t e : TypeId} {v : Value} {d : DataW H} {p : List MemPlace}
theorem open_ints_wide (ht : P.underlying t = some (.slice e)) (he : P.underlying e = some (.int .i64)) (hc : P.cellsOf e = 1) (hval : ∃ a len cap, v = .slice a len cap)
    (h : DataW.Trod enc P W 0 spare held t v d p) : ∃ ao zs cap, v = .slice ao zs.length cap ∧ IsInts W ao zs ∧ (∀ z ∈ zs, (Lit.int .i64 z).wf = true) ∧ zs.length ≤ 9223372036854775807 := by
  obtain ⟨a0, len0, cap0, rfl⟩ := hval
  obtain ⟨fuel, hf⟩ := h
  rcases open_ints ht he hc hf with ⟨hcs, _⟩ | ⟨a, len, cap, zs, hcs, _, hl, hm, hz, hx, hcell, hw⟩
  · have : Value.slice a0 len0 cap0 = .slice none 0 0 := by simpa [Value.cells] using hcs
    exact ⟨none, [], 0, by rw [this]; rfl, Or.inl rfl, by simp, by simp⟩
  · have : Value.slice a0 len0 cap0 = .slice (some a) len cap := by simpa [Value.cells] using hcs
    have hlen : (zs.take len).length = len := by rw [List.length_take]; split at hz <;> omega
    refine ⟨some a, zs.take len, cap, by rw [this, hlen], ?_, fun z hz => hw z (List.mem_of_mem_take hz), by rw [hlen]; exact Nat.le_trans hl (Nat.le_trans hm (by decide))⟩
    by_cases h0 : len = 0
    · exact Or.inl (by rw [h0]; rfl)
    · obtain ⟨bk, off, spot⟩ := a
      have hpos : 0 < zs.length := by split at hz <;> omega
      have hspot : spot = none := by simpa [Addr.add] using World.cell?_spot (hcell 0 hpos)
      subst hspot
      have hcell' : ∀ k, (h : k < (zs.take len).length) → W.cell? ⟨bk, off + k, none⟩ = some (.int .i64 (zs.take len)[k]) := by
        intro k hk
        have h1 := hcell k (by rw [List.length_take] at hk; omega)
        have h2 : zs.getD k 0 = (zs.take len)[k] := by
          rw [List.getElem_take, List.getD_eq_getElem?_getD, List.getElem?_eq_getElem (by rw [List.length_take] at hk; omega)]; rfl
        have h3 : (⟨bk, off, none⟩ : Addr).add k = ⟨bk, off + k, none⟩ := by simp [Addr.add]
        rw [h2, h3] at h1
        exact h1
      exact Or.inr ⟨bk, off, rfl, lt_of_cell (hcell' 0 (by omega)), hcell'⟩
end

end Go.Proofs.Ytejgbfaampllaaa
