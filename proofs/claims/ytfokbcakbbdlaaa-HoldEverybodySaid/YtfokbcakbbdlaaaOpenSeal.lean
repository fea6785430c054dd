/- Seals as arguments: what their cells hold. -/
import Derived.Test.YtfokbcakbbdlaaaOpenSl
import Derived.Deep.Slices
import Derived.Deep.Fields
namespace Go.Proofs.Ytfokbcakbbdlaaa
open Go.ChangeShapes Go.WideShapes Go.ChangeAt Go.RowKit Go.Deep

section
variable {H : Type} {enc : TypeId × Value → H} {W : World} {base : Nat} {spare : Nat → Bool} {held : Bool} {v : Value} {d : DataW H} {p : List MemPlace}
theorem open_strs_cells {fuel : Nat} {cs : List Value} {x : DataW H × List MemPlace} (h : DataW.trod enc Try.prog W base spare held fuel 22 cs = some x) :
    ∃ ao ss cap, cs = [.slice ao (List.length ss) cap] ∧ IsStrs W ao ss ∧ ss.length ≤ cap ∧ cap ≤ 9223372036854775807 ∧ ∀ s ∈ ss, s.size ≤ 9223372036854775807 := by
  rcases open_strings Try.underlying22 Try.underlying9 (show Try.prog.cellsOf 9 = 1 by kernel_rfl) h with ⟨hcs, _⟩ | ⟨a, len, cap, ss, hcs, _, hl, hm, hz, hx, hcell, hss⟩
  · exact ⟨none, [], 0, hcs, Or.inl rfl, by simp, by simp, by simp⟩
  · have hlen : (ss.take len).length = len := by rw [List.length_take]; split at hz <;> omega
    refine ⟨some a, ss.take len, cap, by rw [hcs, hlen], ?_, by rw [hlen]; exact hl, hm, fun s hs => hss s (List.mem_of_mem_take hs)⟩
    by_cases h0 : len = 0
    · exact Or.inl (by rw [h0]; rfl)
    · obtain ⟨bk, off, spot⟩ := a
      have hpos : 0 < ss.length := by split at hz <;> omega
      have hspot : spot = none := by simpa [Addr.add] using World.cell?_spot (hcell 0 hpos)
      subst hspot
      have hcell' : ∀ k, (h : k < (ss.take len).length) → W.cell? ⟨bk, off + k, none⟩ = some (.string (ss.take len)[k]) := by
        intro k hk
        have h1 := hcell k (by rw [List.length_take] at hk; omega)
        have h2 : ss.getD k ByteArray.empty = (ss.take len)[k] := by
          rw [List.getElem_take, List.getD_eq_getElem?_getD, List.getElem?_eq_getElem (by rw [List.length_take] at hk; omega)]; rfl
        have h3 : (⟨bk, off, none⟩ : Addr).add k = ⟨bk, off + k, none⟩ := by simp [Addr.add]
        rw [h2, h3] at h1
        exact h1
      exact Or.inr ⟨bk, off, rfl, lt_of_cell (hcell' 0 (by omega)), hcell'⟩
/-- What a seal's cells owe. -/
structure SealFine (W : World) (idx : Int) (so po : Option Addr) (c1 c2 : Nat) (sig path : List ByteArray) : Prop where
  wf : (Lit.int .i64 idx).wf = true
  is1 : IsStrs W so sig
  is2 : IsStrs W po path
  cap1 : sig.length ≤ c1 ∧ c1 ≤ 9223372036854775807
  cap2 : path.length ≤ c2 ∧ c2 ≤ 9223372036854775807
  z1 : ∀ s ∈ sig, s.size ≤ 9223372036854775807
  z2 : ∀ s ∈ path, s.size ≤ 9223372036854775807
theorem open_seal {r : Reach} {b0 : Nat} (hv : Value.okWide Try.prog W r b0 52 v) (h : DataW.Trod enc Try.prog W base spare held 52 v d p) :
    ∃ idx so po c1 c2 sig path, v = .agg #[.int .i64 idx, .slice so (List.length sig) c1, .slice po (List.length path) c2] ∧ SealFine W idx so po c1 c2 sig path := by
  obtain ⟨ca, rfl, hsz⟩ := okWide_struct Try.underlying52 hv
  obtain ⟨fuel, hf⟩ := h
  obtain ⟨xs, n, _, _, hl, hxl, hf⟩ := DataW.trod_struct Try.underlying52 hf
  have hC : Try.prog.cellsOf 52 = 3 := by kernel_rfl
  have ci : Try.prog.cellsOf 3 = 1 := by kernel_rfl
  have cs : Try.prog.cellsOf 22 = 1 := by kernel_rfl
  rw [hC] at hsz
  obtain ⟨ca⟩ := ca
  match ca, hsz with
  | [c0, c1, c2], _ =>
    match xs, hxl with
    | [y0, y1, y2], _ =>
      have g0 := hf 0 _ rfl
      have g1 := hf 1 _ rfl
      have g2 := hf 2 _ rfl
      simp [ci, Value.cells] at g0
      simp [cs, Value.cells] at g1 g2
      obtain ⟨k, e0, -, hw⟩ := DataW.trod_int Try.underlying3 g0
      obtain ⟨so, sig, k1, e1, h1, l1, m1, z1⟩ := open_strs_cells g1
      obtain ⟨po, path, k2, e2, h2, l2, m2, z2⟩ := open_strs_cells g2
      simp only [List.cons.injEq, and_true] at e0 e1 e2
      exact ⟨k, so, po, k1, k2, sig, path, by rw [e0, e1, e2], hw, h1, h2, ⟨l1, m1⟩, ⟨l2, m2⟩, z1, z2⟩
end

end Go.Proofs.Ytfokbcakbbdlaaa
