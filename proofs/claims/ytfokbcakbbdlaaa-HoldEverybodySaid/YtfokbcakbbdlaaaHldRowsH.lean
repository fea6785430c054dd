/- Rows of holds of one's own: each hold's lists lie below, or in rows of their own. -/
import Derived.Test.YtfokbcakbbdlaaaHldCopy
namespace Go.Proofs.Ytfokbcakbbdlaaa
open Go.RowKit
open Hld (Rc Hd)

/-- A list of numbers that was there, or that lies in a row of one's own. -/
def IJ (W w : World) (ao : Option Addr) (c : Nat) (zs : List Int) : Prop := IsInts W ao zs ∨ w.ownsRow W.heap.size 3 1 (.slice ao zs.length c) zs.length (intsC zs)
section
variable {W w w' : World} {ao : Option Addr} {c : Nat} {zs : List Int}
theorem IJ.ints (h : IJ W w ao c zs) (hb : Below W.heap.size W w) : IsInts w ao zs := by
  rcases h with h | h
  · exact h.below hb
  · exact ints_of_row h
theorem IJ.below (h : IJ W w ao c zs) (hb : Below w.heap.size w w') : IJ W w' ao c zs := by
  rcases h with h | h
  · exact Or.inl h
  · exact Or.inr (owns_below h hb)
theorem IJ.grown (h : IJ W w ao c zs) {v : Value} {n b : Nat} {xs : List Value} (hv : w.ownsRow b 31 4 v n xs) (hg : w.grownBy w' v.ownBlock) : IJ W w' ao c zs := by
  rcases h with h | h
  · exact Or.inl h
  · exact Or.inr (Apart.kept (owns_apart hv h (by decide)) h hg)
theorem IJ.set (h : IJ W w ao c zs) {g i : Nat} {cs : Array Value} (hg : Whole w g 31 cs) (u : Value) : IJ W (w.setCell ⟨g, i, none⟩ u) ao c zs := by
  rcases h with h | h
  · exact Or.inl h
  · exact Or.inr (owns_set h hg (by decide) u)
end
def HCs (J : Option Addr → Nat → List Int → Prop) : List Hd → List Value → Prop
  | [], cs => cs = []
  | h :: l, cs => ∃ mo mc bo bc cs', cs = [.string h.id, .string h.vehicle, .slice mo h.members.length mc, .slice bo h.back.length bc] ++ cs' ∧ J mo mc h.members ∧ J bo bc h.back ∧ HCs J l cs'
section
variable {J J' : Option Addr → Nat → List Int → Prop}
theorem HCs.mono (hJ : ∀ ao c zs, J ao c zs → J' ao c zs) : ∀ {l : List Hd} {cs : List Value}, HCs J l cs → HCs J' l cs
  | [], _, h => h
  | _ :: _, _, ⟨mo, mc, bo, bc, cs', e, h1, h2, h3⟩ => ⟨mo, mc, bo, bc, cs', e, hJ _ _ _ h1, hJ _ _ _ h2, HCs.mono hJ h3⟩
theorem HCs.snoc : ∀ {l : List Hd} {cs : List Value} {h : Hd} {mo bo : Option Addr} {mc bc : Nat}, HCs J l cs → J mo mc h.members → J bo bc h.back →
    HCs J (l ++ [h]) (cs ++ [.string h.id, .string h.vehicle, .slice mo h.members.length mc, .slice bo h.back.length bc])
  | [], cs, h, mo, bo, mc, bc, hc, h1, h2 => by
    have : cs = [] := hc
    subst this
    exact ⟨mo, mc, bo, bc, [], by simp, h1, h2, rfl⟩
  | x :: l, cs, h, mo, bo, mc, bc, ⟨mo', mc', bo', bc', cs', e, k1, k2, k3⟩, h1, h2 => by
    subst e
    exact ⟨mo', mc', bo', bc', _, by rw [List.append_assoc], k1, k2, HCs.snoc k3 h1 h2⟩
theorem HCs.at : ∀ {l : List Hd} {cs : List Value}, HCs J l cs → ∀ k (hk : k < l.length), ∃ mo mc bo bc, J mo mc l[k].members ∧ J bo bc l[k].back ∧ ∀ i u, [Value.string l[k].id, .string l[k].vehicle, .slice mo l[k].members.length mc, .slice bo l[k].back.length bc][i]? = some u → cs[k * 4 + i]? = some u
  | _ :: _, _, ⟨mo, mc, bo, bc, cs', e, h1, h2, h3⟩, 0, _ => by
    subst e
    refine ⟨mo, mc, bo, bc, h1, h2, fun i u hu => ?_⟩
    have hi : i < 4 := (List.getElem?_eq_some_iff.1 hu).1
    rw [Nat.zero_mul, Nat.zero_add, List.getElem?_append_left (by simpa using hi)]
    exact hu
  | _ :: l, _, ⟨_, _, _, _, cs', e, _, _, h3⟩, k + 1, hk => by
    subst e
    obtain ⟨mo, mc, bo, bc, k1, k2, k3⟩ := HCs.at h3 k (by simpa using hk)
    refine ⟨mo, mc, bo, bc, k1, k2, fun i u hu => ?_⟩
    rw [List.getElem?_append_right (by simp; omega)]
    have := k3 i u hu
    rw [← this]
    congr 1
    simp
    omega
end
theorem holds_of_row {W w : World} {B : Nat} {ao : Option Addr} {n c : Nat} {l : List Hd} {cs : List Value} (hn : n = l.length) (h : w.ownsRow B 31 4 (.slice ao n c) n cs) (hc : HCs (IJ W w) l cs) (hb : Below W.heap.size W w) : IsHolds w ao l := by
  subst hn
  rcases h.2 with ⟨h1, h0⟩ | ⟨g, cap, cur, hv, hB, hg, _, _, _, htk⟩
  · exact Or.inl (List.eq_nil_of_length_eq_zero h0)
  · injection hv with hv
    subst hv
    have hw : Whole w g 31 cur := hg
    refine Or.inr ⟨g, 0, rfl, hw.lt, fun k hk => ?_⟩
    obtain ⟨mo, mc, bo, bc, k1, k2, k3⟩ := hc.at k hk
    have hcell : ∀ i u, [Value.string l[k].id, .string l[k].vehicle, .slice mo l[k].members.length mc, .slice bo l[k].back.length bc][i]? = some u → w.cell? ⟨g, 0 + k * 4 + i, none⟩ = some u := fun i u hu => by
      have hi : i < 4 := (List.getElem?_eq_some_iff.1 hu).1
      rw [hw.cell, ← Array.getElem?_toList, Nat.zero_add]
      have h3 := k3 i u hu
      rw [← htk, List.getElem?_take_of_lt (by omega)] at h3
      exact h3
    exact ⟨hcell 0 _ rfl, hcell 1 _ rfl, mo, mc, bo, bc, hcell 2 _ rfl, hcell 3 _ rfl, k1.ints hb, k2.ints hb⟩
theorem filter_next {q : Hd → Bool} {l : List Hd} {k : Nat} (hk : k < l.length) : ((l.take (k + 1)).filter q) = (l.take k).filter q ++ if q l[k] then [l[k]] else [] := by
  rw [List.take_succ_eq_append_getElem hk, List.filter_append]
  congr 1
  by_cases h : q l[k] = true
  · rw [if_pos h, List.filter_cons_of_pos h]; rfl
  · rw [if_neg h, List.filter_cons_of_neg h]; rfl

end Go.Proofs.Ytfokbcakbbdlaaa
