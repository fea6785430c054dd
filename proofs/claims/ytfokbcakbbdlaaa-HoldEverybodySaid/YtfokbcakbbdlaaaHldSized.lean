/- What the form's reach says of a list's length. -/
import Derived.Test.YtfokbcakbbdlaaaHldOpen
import Derived.SizedLaws
namespace Go.Proofs.Ytfokbcakbbdlaaa
open Go.ChangeShapes Go.WideShapes Go.ChangeAt Go.RowKit Go.Deep

section
variable {H : Type} {enc : TypeId × Value → H} {W : World} {spare : Nat → Bool} {held : Bool} {d : DataW H} {p : List MemPlace}
theorem slice_data {t e : TypeId} (ht : Try.prog.underlying t = some (.slice e)) {ao : Option Addr} {n c : Nat} (h : DataW.Trod enc Try.prog W 0 spare held t (.slice ao n c) d p) : n = 0 ∨ ∃ elems sp, d = .slice elems sp ∧ elems.length = n := by
  obtain ⟨fuel, hf⟩ := h
  rcases open_slice ht hf with ⟨hcs, _⟩ | ⟨a, len, cap, m, k, D, Pl, hcs, _, _, _, _, hx, _⟩
  · have : Value.slice ao n c = .slice none 0 0 := by simpa [Value.cells] using hcs
    simp only [Value.slice.injEq] at this
    exact Or.inl this.2.1
  · have : Value.slice ao n c = .slice (some a) len cap := by simpa [Value.cells] using hcs
    simp only [Value.slice.injEq] at this
    refine Or.inr ⟨_, _, (congrArg Prod.fst hx), ?_⟩
    rw [this.2.1]
    simp
theorem sized_len {ts : List TypeId} {ds : List (DataW H)} (hsz : (DataW.weightsEach Try.prog ts ds).all (· ≤ reachBytes) = true) {j : Nat} {t e : TypeId} (ht : ts[j]? = some t) (hd : ds[j]? = some d) (hu : Try.prog.underlying t = some (.slice e)) {b : Nat} (hb : Try.prog.bytesOf e = b) {ao : Option Addr} {n c : Nat}
    (h : DataW.Trod enc Try.prog W 0 spare held t (.slice ao n c) d p) : n * b ≤ 140737488351232 := by
  rcases slice_data hu h with h0 | ⟨elems, sp, hx, hl⟩
  · rw [h0, Nat.zero_mul]; exact Nat.zero_le _
  · subst hx
    have := sized_slice hsz ht hd hu
    rw [hb, hl] at this
    have h2 : n * b ≤ (n + sp.length) * b := Nat.mul_le_mul_right _ (by omega)
    exact Nat.le_trans h2 this
end

end Go.Proofs.Ytfokbcakbbdlaaa
