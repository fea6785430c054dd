/- Names, records as arguments, with what an empty list is. -/
import Derived.Test.YtfokbcakbbdlaaaHldOps
namespace Go.Proofs.Ytfokbcakbbdlaaa
open Go.ChangeShapes Go.WideShapes Go.ChangeAt Go.RowKit Go.Deep
open Hld (Rc Hd)

section
variable {H : Type} {enc : TypeId × Value → H} {W : World} {spare : Nat → Bool} {held : Bool} {v : Value} {d : DataW H} {p : List MemPlace}
theorem open_strs_val (hval : ∃ a len cap, v = .slice a len cap) (h : DataW.Trod enc Try.prog W 0 spare held 22 v d p) :
    ∃ ao ss cap, v = .slice ao (List.length ss) cap ∧ IsStrs W ao ss ∧ ss.length ≤ 9223372036854775807 ∧ ((ao = none ∧ cap = 0) ∨ ∃ ad, ao = some ad) := by
  obtain ⟨a0, len0, cap0, rfl⟩ := hval
  obtain ⟨fuel, hf⟩ := h
  obtain ⟨ao, ss, cap, h1, h2, h3, h4, h5⟩ := open_strs_cells hf
  have e : Value.slice a0 len0 cap0 = .slice ao ss.length cap := by simpa [Value.cells] using h1
  refine ⟨ao, ss, cap, e, h2, by omega, ?_⟩
  rcases open_slice Try.underlying22 hf with ⟨hcs, _⟩ | ⟨a, len, cap2, m, n, D, Pl, hcs, _⟩
  · have : Value.slice a0 len0 cap0 = .slice none 0 0 := by simpa [Value.cells] using hcs
    rw [e] at this
    simp only [Value.slice.injEq] at this
    exact Or.inl ⟨this.1, this.2.2⟩
  · have : Value.slice a0 len0 cap0 = .slice (some a) len cap2 := by simpa [Value.cells] using hcs
    rw [e] at this
    simp only [Value.slice.injEq] at this
    exact Or.inr ⟨a, this.1⟩
theorem open_recs_val (hval : ∃ a len cap, v = .slice a len cap) (h : DataW.Trod enc Try.prog W 0 spare held 23 v d p) :
    ∃ ao l cap, v = .slice ao (List.length l) cap ∧ IsRecs W ao l ∧ l.length ≤ 9223372036854775807 ∧ ((ao = none ∧ cap = 0) ∨ ∃ ad, ao = some ad) := by
  obtain ⟨ao, l, cap, h1, h2, _, h3, h4⟩ := open_recs hval h
  exact ⟨ao, l, cap, h1, h2, h3, h4⟩
end

end Go.Proofs.Ytfokbcakbbdlaaa
