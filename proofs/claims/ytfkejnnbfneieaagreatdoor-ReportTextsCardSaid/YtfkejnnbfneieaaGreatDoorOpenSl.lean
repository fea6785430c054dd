/- Lists as arguments: what their cells hold. -/
import Derived.Test.YtfkejnnbfneieaaGreatDoorBase
import Derived.ProofKit
import Derived.OpenShut
import Derived.SizedLaws
import Derived.SliceStrings
namespace Go.Proofs.YtfkejnnbfneieaaGreatDoor
open Go.ChangeShapes Go.WideShapes Go.ChangeAt Go.RowKit

/-- A list of texts lies behind this address. -/
def IsStrs (w : World) (ao : Option Addr) (ss : List ByteArray) : Prop :=
  ss = [] ∨ ∃ bk off, ao = some ⟨bk, off, none⟩ ∧ bk < w.heap.size ∧ ∀ k, (h : k < ss.length) → w.cell? ⟨bk, off + k, none⟩ = some (.string ss[k])
theorem IsStrs.below {w w' : World} {ao : Option Addr} {ss : List ByteArray} (h : IsStrs w ao ss) (hb : Below w.heap.size w w') : IsStrs w' ao ss := by
  rcases h with h | ⟨bk, off, h1, h2, h3⟩
  · exact Or.inl h
  · exact Or.inr ⟨bk, off, h1, Nat.lt_of_lt_of_le h2 hb.size, fun k hk => by rw [hb.cell (p := ⟨bk, off + k, none⟩) h2]; exact h3 k hk⟩
/-- A list of numbers lies behind this address. -/
def IsInts (w : World) (ao : Option Addr) (zs : List Int) : Prop :=
  zs = [] ∨ ∃ bk off, ao = some ⟨bk, off, none⟩ ∧ bk < w.heap.size ∧ ∀ k, (h : k < zs.length) → w.cell? ⟨bk, off + k, none⟩ = some (.int .i64 zs[k])
theorem IsInts.below {w w' : World} {ao : Option Addr} {zs : List Int} (h : IsInts w ao zs) (hb : Below w.heap.size w w') : IsInts w' ao zs := by
  rcases h with h | ⟨bk, off, h1, h2, h3⟩
  · exact Or.inl h
  · exact Or.inr ⟨bk, off, h1, Nat.lt_of_lt_of_le h2 hb.size, fun k hk => by rw [hb.cell (p := ⟨bk, off + k, none⟩) h2]; exact h3 k hk⟩
theorem lt_of_cell {w : World} {b o : Nat} {v : Value} (h : w.cell? ⟨b, o, none⟩ = some v) : b < w.heap.size := by
  rcases Nat.lt_or_ge b w.heap.size with h' | h'
  · exact h'
  · unfold World.cell? at h; simp [Array.getElem?_eq_none h'] at h

section
variable {H : Type} {enc : TypeId × Value → H} {P : Program} {W : World} {base : Nat} {spare : Nat → Bool} {held : Bool} {t e : TypeId} {v : Value} {d : DataW H} {p : List MemPlace}
theorem open_strs_any (ht : P.underlying t = some (.slice e)) (he : P.underlying e = some .string) (hc : P.cellsOf e = 1) (hval : ∃ a len cap, v = .slice a len cap)
    (h : DataW.Trod enc P W 0 spare held t v d p) : ∃ ao ss cap, v = .slice ao ss.length cap ∧ IsStrs W ao ss ∧ (ss = [] ∨ ∃ sp, d = .slice (strs ss) sp) := by
  obtain ⟨a0, len0, cap0, rfl⟩ := hval
  obtain ⟨fuel, hf⟩ := h
  rcases open_strings ht he hc hf with ⟨hcs, _⟩ | ⟨a, len, cap, ss, hcs, _, hl, hm, hz, hx, hcell, _⟩
  · have : Value.slice a0 len0 cap0 = .slice none 0 0 := by simpa [Value.cells] using hcs
    exact ⟨none, [], 0, by rw [this]; rfl, Or.inl rfl, Or.inl rfl⟩
  · have : Value.slice a0 len0 cap0 = .slice (some a) len cap := by simpa [Value.cells] using hcs
    have hlen : (ss.take len).length = len := by rw [List.length_take]; split at hz <;> omega
    have hd : d = .slice (strs (ss.take len)) (strs (ss.drop len)) := by injection hx
    refine ⟨some a, ss.take len, cap, by rw [this, hlen], ?_, Or.inr ⟨_, hd⟩⟩
    by_cases h0 : len = 0
    · exact Or.inl (by rw [h0]; rfl)
    · obtain ⟨bk, off, spot⟩ := a
      have hpos : 0 < ss.length := by split at hz <;> omega
      have hspot : spot = none := by simpa [Addr.add] using World.cell?_spot (hcell 0 hpos)
      subst hspot
      have hcell' : ∀ k, (h : k < (ss.take len).length) → W.cell? ⟨bk, off + k, none⟩ = some (.string (ss.take len)[k]) := by
        intro k hk
        have h1 := hcell k (by rw [List.length_take] at hk; omega)
        have h2 : ss.getD k ByteArray.empty = (ss.take len)[k] := by
          rw [List.getElem_take, List.getD_eq_getElem?_getD, List.getElem?_eq_getElem (by rw [List.length_take] at hk; omega)]; rfl
        have h3 : (⟨bk, off, none⟩ : Addr).add k = ⟨bk, off + k, none⟩ := by simp [Addr.add]
        rw [h2, h3] at h1
        exact h1
      exact Or.inr ⟨bk, off, rfl, lt_of_cell (hcell' 0 (by omega)), hcell'⟩
theorem open_ints_any (ht : P.underlying t = some (.slice e)) (he : P.underlying e = some (.int .i64)) (hc : P.cellsOf e = 1) (hval : ∃ a len cap, v = .slice a len cap)
    (h : DataW.Trod enc P W 0 spare held t v d p) : ∃ ao zs cap, v = .slice ao zs.length cap ∧ IsInts W ao zs ∧ (∀ z ∈ zs, (Lit.int .i64 z).wf = true) ∧ (zs = [] ∨ ∃ es sp, d = .slice es sp ∧ es.length = zs.length) := by
  obtain ⟨a0, len0, cap0, rfl⟩ := hval
  obtain ⟨fuel, hf⟩ := h
  rcases open_ints ht he hc hf with ⟨hcs, _⟩ | ⟨a, len, cap, zs, hcs, _, hl, hm, hz, hx, hcell, hw⟩
  · have : Value.slice a0 len0 cap0 = .slice none 0 0 := by simpa [Value.cells] using hcs
    exact ⟨none, [], 0, by rw [this]; rfl, Or.inl rfl, by simp, Or.inl rfl⟩
  · have : Value.slice a0 len0 cap0 = .slice (some a) len cap := by simpa [Value.cells] using hcs
    have hlen : (zs.take len).length = len := by rw [List.length_take]; split at hz <;> omega
    have hd := (Prod.mk.inj hx).1
    refine ⟨some a, zs.take len, cap, by rw [this, hlen], ?_, fun z hz => hw z (List.mem_of_mem_take hz), Or.inr ⟨_, _, hd, by simp [lits]⟩⟩
    by_cases h0 : len = 0
    · exact Or.inl (by rw [h0]; rfl)
    · obtain ⟨bk, off, spot⟩ := a
      have hpos : 0 < zs.length := by split at hz <;> omega
      have hspot : spot = none := by simpa [Addr.add] using World.cell?_spot (hcell 0 hpos)
      subst hspot
      have hcell' : ∀ k, (h : k < (zs.take len).length) → W.cell? ⟨bk, off + k, none⟩ = some (.int .i64 (zs.take len)[k]) := by
        intro k hk
        have h1 := hcell k (by rw [List.length_take] at hk; omega)
        have h2 : zs.getD k 0 = (zs.take len)[k] := by
          rw [List.getElem_take, List.getD_eq_getElem?_getD, List.getElem?_eq_getElem (by rw [List.length_take] at hk; omega)]; rfl
        have h3 : (⟨bk, off, none⟩ : Addr).add k = ⟨bk, off + k, none⟩ := by simp [Addr.add]
        rw [h2, h3] at h1
        exact h1
      exact Or.inr ⟨bk, off, rfl, lt_of_cell (hcell' 0 (by omega)), hcell'⟩
theorem strs_len {ts : List TypeId} {ds : List (DataW H)} (hsz : (DataW.weightsEach P ts ds).all (· ≤ reachBytes) = true) {j : Nat} {ss : List ByteArray} (ht : ts[j]? = some t) (hd : ds[j]? = some d) (hu : P.underlying t = some (.slice e)) (hb : 1 ≤ P.bytesOf e)
    (h : ss = [] ∨ ∃ sp, d = .slice (strs ss) sp) : ss.length ≤ 140737488351232 := by
  rcases h with rfl | ⟨sp, rfl⟩
  · simp
  · have h1 := sized_slice hsz ht hd hu
    have h2 : (strs ss : List (DataW H)).length = ss.length := by simp [strs]
    have h3 : reachBytes = 140737488351232 := by decide
    rw [h2, h3] at h1
    have : ss.length + sp.length ≤ (ss.length + sp.length) * P.bytesOf e := Nat.le_mul_of_pos_right _ hb
    omega
theorem ints_len {ts : List TypeId} {ds : List (DataW H)} (hsz : (DataW.weightsEach P ts ds).all (· ≤ reachBytes) = true) {j : Nat} {zs : List Int} (ht : ts[j]? = some t) (hd : ds[j]? = some d) (hu : P.underlying t = some (.slice e)) (hb : 1 ≤ P.bytesOf e)
    (h : zs = [] ∨ ∃ es sp, d = .slice es sp ∧ es.length = zs.length) : zs.length ≤ 140737488351232 := by
  rcases h with rfl | ⟨es, sp, rfl, hz⟩
  · simp
  · have h1 := sized_slice hsz ht hd hu
    have h3 : reachBytes = 140737488351232 := by decide
    rw [h3] at h1
    have : es.length + sp.length ≤ (es.length + sp.length) * P.bytesOf e := Nat.le_mul_of_pos_right _ hb
    omega
end

end Go.Proofs.YtfkejnnbfneieaaGreatDoor
