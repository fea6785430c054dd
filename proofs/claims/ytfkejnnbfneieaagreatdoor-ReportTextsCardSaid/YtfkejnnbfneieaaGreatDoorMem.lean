/- Lists of structs in memory, whatever the struct: where each element's cells lie, and what they say. -/
import Derived.Test.YtfkejnnbfneieaaGreatDoorTwo
import Derived.Test.YtfkejnnbfneieaaGreatDoorOnly
import Derived.Test.YtfkejnnbfneieaaGreatDoorAppApart
import Derived.Deep.Slices
import Derived.Deep.Fields
import Derived.Deep.MidRow
namespace Go.Proofs.YtfkejnnbfneieaaGreatDoor
open Go.ChangeShapes Go.WideShapes Go.ChangeAt Go.RowKit Go.Deep

/-- What the cells of an element say in a world stays so as the world grows. -/
def ElStable {α : Type} (El : World → List Value → α → Prop) : Prop := ∀ (W W' : World) (cs : List Value) (a : α), El W cs a → Below W.heap.size W W' → El W' cs a
/-- A list of elements of this many cells lies behind this address. -/
def IsL {α : Type} (size : Nat) (El : World → List Value → α → Prop) (W : World) (ao : Option Addr) (l : List α) : Prop :=
  l = [] ∨ ∃ bk off, ao = some ⟨bk, off, none⟩ ∧ bk < W.heap.size ∧ ∀ k, (h : k < l.length) → ∃ cs, W.rangeAt bk (off + k * size) cs ∧ El W cs l[k]
section
variable {α : Type} {size : Nat} {El : World → List Value → α → Prop} {W W' : World} {ao : Option Addr} {l : List α}
theorem cellB {B : Nat} {W w' : World} {g o : Nat} (h : Below B W w') (hg : g < B) : w'.cell? ⟨g, o, none⟩ = W.cell? ⟨g, o, none⟩ := h.cell (p := ⟨g, o, none⟩) hg
theorem rangeB {W W' : World} {b o : Nat} {cs : List Value} (h : W.rangeAt b o cs) (hl : b < W.heap.size) (hb : Below W.heap.size W W') : W'.rangeAt b o cs := fun j v hv => (hb.cell (p := ⟨b, o + j, none⟩) hl).trans (h j v hv)
theorem IsL.nil : IsL size El W ao [] := Or.inl rfl
theorem IsL.below (hS : ElStable El) (h : IsL size El W ao l) (hb : Below W.heap.size W W') : IsL size El W' ao l := by
  rcases h with h | ⟨bk, off, h1, h2, h3⟩
  · exact Or.inl h
  · refine Or.inr ⟨bk, off, h1, Nat.lt_of_lt_of_le h2 hb.size, fun k hk => ?_⟩
    obtain ⟨cs, h4, h5⟩ := h3 k hk
    exact ⟨cs, rangeB h4 h2 hb, hS _ _ _ _ h5 hb⟩
theorem IsL.at (h : IsL size El W ao l) {k : Nat} (hk : k < l.length) : ∃ bk off cs, ao = some ⟨bk, off, none⟩ ∧ bk < W.heap.size ∧ W.rangeAt bk (off + k * size) cs ∧ El W cs l[k] := by
  rcases h with h | ⟨bk, off, h1, h2, h3⟩
  · subst h; simp at hk
  · obtain ⟨cs, h4, h5⟩ := h3 k hk
    exact ⟨bk, off, cs, h1, h2, h4, h5⟩
/-- The first elements. -/
theorem IsL.take (h : IsL size El W ao l) (n : Nat) : IsL size El W ao (l.take n) := by
  rcases h with h | ⟨bk, off, h1, h2, h3⟩
  · exact Or.inl (by rw [h]; simp)
  · refine Or.inr ⟨bk, off, h1, h2, fun k hk => ?_⟩
    have hk' : k < l.length := by rw [List.length_take] at hk; omega
    obtain ⟨cs, h4, h5⟩ := h3 k hk'
    exact ⟨cs, h4, by rw [List.getElem_take]; exact h5⟩
theorem flat_at {css : List (List Value)} : ∀ {k : Nat} (_ : k < css.length) (j : Nat), (∀ cs ∈ css, cs.length = size) → j < size → css.flatten[k * size + j]? = css[k][j]? := by
  induction css with
  | nil => intro k hk; simp at hk
  | cons c css ih =>
    intro k hk j hz hj
    have hc : c.length = size := hz c (List.mem_cons_self ..)
    cases k with
    | zero => rw [List.flatten_cons, List.getElem?_append_left (by omega)]; simp
    | succ k =>
      rw [List.flatten_cons, List.getElem?_append_right (by rw [hc, Nat.succ_mul]; omega), hc, show (k + 1) * size + j - size = k * size + j by rw [Nat.succ_mul]; omega]
      exact ih (by simpa using hk) j (fun cs h => hz cs (List.mem_cons_of_mem _ h)) hj
/-- From a row of one's own. -/
theorem IsL.row {t : TypeId} {B n c : Nat} {css : List (List Value)} (h : W.ownsRow B t size (.slice ao n c) n css.flatten) (hn : n = l.length) (hl : css.length = l.length) (hsz : ∀ cs ∈ css, cs.length = size) (hel : ∀ k (h : k < l.length) (h' : k < css.length), El W css[k] l[k]) : IsL size El W ao l := by
  rcases h.2 with ⟨h1, h0⟩ | ⟨g, cap, cur, hv, hB, hc, _, _, _, htk⟩
  · exact Or.inl (List.eq_nil_of_length_eq_zero (by omega))
  · injection hv with hv
    subst hv
    have hw : Whole W g t cur := hc
    refine Or.inr ⟨g, 0, rfl, hw.lt, fun k hk => ?_⟩
    have hk' : k < css.length := by omega
    refine ⟨css[k], fun j v hv => ?_, hel k hk hk'⟩
    have hj : j < size := by rw [← hsz _ (List.getElem_mem hk')]; exact (List.getElem?_eq_some_iff.1 hv).1
    rw [Nat.zero_add, hw.cell, ← Array.getElem?_toList]
    have h3 := flat_at hk' j hsz hj
    have hlt : k * size + j < n * size := by
      have : (k + 1) * size ≤ n * size := Nat.mul_le_mul_right _ (by omega)
      rw [Nat.succ_mul] at this
      omega
    rw [← htk, List.getElem?_take_of_lt hlt] at h3
    rw [h3]
    exact hv
/-- From a whole block. -/
theorem IsL.whole {t : TypeId} {b : Nat} {css : List (List Value)} (hw : Whole W b t css.flatten.toArray) (hl : css.length = l.length) (hsz : ∀ cs ∈ css, cs.length = size) (hel : ∀ k (h : k < l.length) (h' : k < css.length), El W css[k] l[k]) : IsL size El W (some ⟨b, 0, none⟩) l := by
  refine Or.inr ⟨b, 0, rfl, hw.lt, fun k hk => ?_⟩
  have hk' : k < css.length := by omega
  refine ⟨css[k], fun j v hv => ?_, hel k hk hk'⟩
  rw [hw.cell, Nat.zero_add]
  have hj : j < size := by rw [← hsz _ (List.getElem_mem hk')]; exact (List.getElem?_eq_some_iff.1 hv).1
  have key : ∀ (css : List (List Value)) (k : Nat) (hk : k < css.length), (∀ cs ∈ css, cs.length = size) → css.flatten[k * size + j]? = css[k][j]? := by
    intro css
    induction css with
    | nil => intro k hk; simp at hk
    | cons c css ih =>
      intro k hk hz
      have hc : c.length = size := hz c (List.mem_cons_self ..)
      cases k with
      | zero => rw [List.flatten_cons, List.getElem?_append_left (by omega)]; simp
      | succ k =>
        rw [List.flatten_cons, List.getElem?_append_right (by rw [hc, Nat.succ_mul]; omega), hc, show (k + 1) * size + j - size = k * size + j by rw [Nat.succ_mul]; omega]
        exact ih k (by simpa using hk) (fun cs h => hz cs (List.mem_cons_of_mem _ h))
  rw [← Array.getElem?_toList, key css k hk' hsz]
  exact hv
end

section
variable {H : Type} {enc : TypeId × Value → H} {P : Program} {W : World} {base : Nat} {spare : Nat → Bool} {held : Bool} {v : Value} {d : DataW H} {p : List MemPlace}
theorem open_field {t : TypeId} {fs : Array Field} {fuel : Nat} {cs : List Value} {x : DataW H × List MemPlace} (ht : P.underlying t = some (.struct fs)) (h : DataW.trod enc P W base spare held fuel t cs = some x) :
    cs.length = P.cellsOf t ∧ ∃ n : Nat, ∀ (i : Nat) (f : Field), fs[i]? = some f → ∃ y, DataW.trod enc P W base spare held n f.type ((cs.drop f.offset).take (P.cellsOf f.type)) = some y := by
  obtain ⟨xs, n, _, _, hl, hxl, hf⟩ := DataW.trod_struct ht h
  refine ⟨hl, n, fun i f hi => ?_⟩
  have hlt : i < xs.length := by rw [hxl]; exact (Array.getElem?_eq_some_iff.1 hi).1
  exact ⟨xs[i], (hf i f hi).trans (List.getElem?_eq_getElem hlt)⟩
theorem fld {te : TypeId} {fs : Array Field} {n o k : Nat} {cs : List Value} (hf : ∀ (i : Nat) (f : Field), fs[i]? = some f → ∃ y, DataW.trod enc P W base spare held n f.type ((cs.drop f.offset).take (P.cellsOf f.type)) = some y)
    (i : Nat) (f : Field) (hi : fs[i]? = some f) (ht : f.type = te) (ho : f.offset = o) (hc : P.cellsOf te = k) : ∃ y, DataW.trod enc P W base spare held n te ((cs.drop o).take k) = some y := by
  have := hf i f hi
  rw [ht, ho, hc] at this
  exact this
theorem open_list {α : Type} {t te : TypeId} {size fuel : Nat} {El : World → List Value → α → Prop} {cs : List Value} {x : DataW H × List MemPlace} (ht : P.underlying t = some (.slice te)) (hC : P.cellsOf te = size) (hpos : 0 < size)
    (hel : ∀ (fuel : Nat) (cs : List Value) (x : DataW H × List MemPlace), DataW.trod enc P W base spare held fuel te cs = some x → ∃ a, El W cs a)
    (h : DataW.trod enc P W base spare held fuel t cs = some x) :
    ∃ ao l cap, cs = [.slice ao (List.length l) cap] ∧ IsL size El W ao l ∧ l.length ≤ cap ∧ cap ≤ 9223372036854775807 ∧ ((ao = none ∧ cap = 0) ∨ ∃ ad, ao = some ad) := by
  rcases open_slice ht h with ⟨hcs, _⟩ | ⟨a, len, cap, m, n, D, Pl, hcs, _, hl, hm, hmm, _, hi⟩
  · exact ⟨none, [], 0, hcs, IsL.nil, by simp, by simp, Or.inl ⟨rfl, rfl⟩⟩
  · have hlm : len ≤ m := by rw [hmm]; split <;> omega
    have hcap : cap ≤ 9223372036854775807 := by unfold maxLen at hm; omega
    obtain ⟨bk, off, spot⟩ := a
    by_cases h0 : len = 0
    · subst h0
      exact ⟨some ⟨bk, off, spot⟩, [], cap, hcs, IsL.nil, by simp, hcap, Or.inr ⟨_, rfl⟩⟩
    have key : ∀ i, i < len → ∃ x : List Value × α, El W x.1 x.2 ∧ x.1.length = size ∧ ∀ j u, x.1[j]? = some u → W.cell? ((⟨bk, off, spot⟩ : Addr).add (i * size + j)) = some u := by
      intro i hil
      obtain ⟨cs', hc, ht⟩ := hi i (by omega)
      rw [hC] at hc
      obtain ⟨x, hx⟩ := hel _ _ _ ht
      obtain ⟨_, hcl, hat⟩ := World.cells?_some hc
      refine ⟨⟨cs', x⟩, hx, hcl, fun j u hu => ?_⟩
      have hj : j < size := by have := (List.getElem?_eq_some_iff.1 hu).1; dsimp only at this; omega
      rw [← Go.Deep.add_add, hat j hj]
      exact hu
    obtain ⟨x0, e0, l0, r0⟩ := key 0 (by omega)
    have h1 := r0 0 _ (List.getElem?_eq_getElem (by omega))
    have hspot : spot = none := by simpa [Addr.add] using World.cell?_spot h1
    subst hspot
    have hadd : ∀ k, (⟨bk, off, none⟩ : Addr).add k = ⟨bk, off + k, none⟩ := fun k => by simp [Addr.add]
    have key2 : ∀ i, ∃ x : List Value × α, i < len → El W x.1 x.2 ∧ x.1.length = size ∧ ∀ j u, x.1[j]? = some u → W.cell? ((⟨bk, off, none⟩ : Addr).add (i * size + j)) = some u := fun i => by
      by_cases hil : i < len
      · obtain ⟨x, hx⟩ := key i hil
        exact ⟨x, fun _ => hx⟩
      · exact ⟨x0, fun hh => absurd hh hil⟩
    obtain ⟨f, hff⟩ := Classical.axiomOfChoice key2
    have hlen : ((List.range len).map fun i => (f i).2).length = len := by simp
    refine ⟨some ⟨bk, off, none⟩, (List.range len).map fun i => (f i).2, cap, by rw [hcs, hlen], Or.inr ⟨bk, off, rfl, ?_, fun k hk => ?_⟩, by rw [hlen]; exact hl, hcap, Or.inr ⟨_, rfl⟩⟩
    · rw [hadd] at h1
      exact lt_of_cell h1
    · have hk' : k < len := by simpa using hk
      obtain ⟨q1, q2, q3⟩ := hff k hk'
      refine ⟨(f k).1, fun j u hu => ?_, by simpa using q1⟩
      have h3 := q3 j u hu
      rw [hadd] at h3
      rw [Nat.add_assoc]
      exact h3
end

end Go.Proofs.YtfkejnnbfneieaaGreatDoor
