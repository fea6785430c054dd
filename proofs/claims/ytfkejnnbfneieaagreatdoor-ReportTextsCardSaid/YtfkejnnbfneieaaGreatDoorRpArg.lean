/- What the form's reach says of a list's length; a report and an event as arguments. -/
import Derived.Test.YtfkejnnbfneieaaGreatDoorEvtIs
import Derived.Test.YtfkejnnbfneieaaGreatDoorEvIs
import Derived.SizedLaws
namespace Go.Proofs.YtfkejnnbfneieaaGreatDoor
open Go.ChangeShapes Go.WideShapes Go.ChangeAt Go.RowKit Go.Deep
open Evt

section
variable {H : Type} {enc : TypeId × Value → H} {W : World} {spare : Nat → Bool} {held : Bool} {d : DataW H} {p : List MemPlace}
theorem slice_dataL {t e : TypeId} (ht : Tryz.prog.underlying t = some (.slice e)) {ao : Option Addr} {n c : Nat} (h : DataW.Trod enc Tryz.prog W 0 spare held t (.slice ao n c) d p) : n = 0 ∨ ∃ elems sp, d = .slice elems sp ∧ elems.length = n := by
  obtain ⟨fuel, hf⟩ := h
  rcases open_slice ht hf with ⟨hcs, _⟩ | ⟨a, len, cap, m, k, D, Pl, hcs, _, _, _, _, hx, _⟩
  · have : Value.slice ao n c = .slice none 0 0 := by simpa [Value.cells] using hcs
    simp only [Value.slice.injEq] at this
    exact Or.inl this.2.1
  · have : Value.slice ao n c = .slice (some a) len cap := by simpa [Value.cells] using hcs
    simp only [Value.slice.injEq] at this
    refine Or.inr ⟨_, _, (congrArg Prod.fst hx), ?_⟩
    rw [this.2.1]
    simp
theorem sized_lenL {ts : List TypeId} {ds : List (DataW H)} (hsz : (DataW.weightsEach Tryz.prog ts ds).all (· ≤ reachBytes) = true) {j : Nat} {t e : TypeId} (ht : ts[j]? = some t) (hd : ds[j]? = some d) (hu : Tryz.prog.underlying t = some (.slice e)) {b : Nat} (hb : Tryz.prog.bytesOf e = b) {ao : Option Addr} {n c : Nat}
    (h : DataW.Trod enc Tryz.prog W 0 spare held t (.slice ao n c) d p) : n * b ≤ 140737488351232 := by
  rcases slice_dataL hu h with h0 | ⟨elems, sp, hx, hl⟩
  · rw [h0, Nat.zero_mul]; exact Nat.zero_le _
  · subst hx
    have := sized_slice hsz ht hd hu
    rw [hb, hl] at this
    have h2 : n * b ≤ (n + sp.length) * b := Nat.mul_le_mul_right _ (by omega)
    exact Nat.le_trans h2 this
end

set_option maxRecDepth 100000 in
/-- A report, or an event, as an argument. -/
theorem open_rp_arg {H : Type} {enc : TypeId × Value → H} {W : World} {base : Nat} {spare : Nat → Bool} {held : Bool} {v : Value} {d : DataW H} {p : List MemPlace} {r : Reach} {b0 : Nat} (hv : Value.okWide Tryz.prog W r b0 31 v) (h : DataW.Trod enc Tryz.prog W base spare held 31 v d p) :
    ∃ (x : Rp) (oo : Option Addr) (oc : Nat), v = .agg #[.slice oo x.opts.length oc, .bool x.doubt] ∧ x.opts.length ≤ oc ∧ oc ≤ 9223372036854775807 ∧ IsL 14 ElEv W oo x.opts := by
  obtain ⟨ca, rfl, hsz⟩ := okWide_struct Tryz.underlying31 hv
  obtain ⟨fuel, hf⟩ := h
  have hc : (Value.agg ca).cells.toList = ca.toList := by simp [Value.cells]
  rw [hc] at hf
  obtain ⟨x, oo, oc, e, h1, h2, h3⟩ := eopen_rp hf
  refine ⟨x, oo, oc, ?_, h2, h3, h1⟩
  rw [← Array.toArray_toList (xs := ca), e]
end Go.Proofs.YtfkejnnbfneieaaGreatDoor
