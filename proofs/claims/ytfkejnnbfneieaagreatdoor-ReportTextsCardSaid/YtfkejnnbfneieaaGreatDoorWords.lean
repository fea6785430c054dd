/- The table of the operations' words, in a world. -/
import Derived.Test.YtfkejnnbfneieaaGreatDoorItoa
import Derived.Test.YtfkejnnbfneieaaGreatDoorEvIs
import Derived.Lib.LaidTab
namespace Go.Proofs.YtfkejnnbfneieaaGreatDoor
open Go.ChangeShapes Go.WideShapes Go.ChangeAt Go.RowKit
open Evt

namespace Evt
def wordsL : List (List UInt8) := [[], [109, 97, 107, 101], [102, 105, 116], [114, 101, 109, 111, 118, 101], [114, 117, 110], [111, 118, 101, 114, 104, 97, 117, 108], [110, 111, 116, 101], [115, 99, 114, 97, 112]]
end Evt
/-- The table of words, in a world. -/
def WTab (w : World) : Prop := w.var? Tryz.prog "bogie/event.words" = some (wordsL.map fun s => Value.string ⟨s.toArray⟩).toArray
theorem WTab.below {w w' : World} (h : WTab w) (hb : Below w.heap.size w w') : WTab w' := by
  unfold WTab World.var? at *
  cases hg : Tryz.prog.globalNamed "bogie/event.words" with
  | none => simp [hg] at h
  | some g =>
    simp only [hg, Option.bind_some] at h ⊢
    have hlt : g < w.heap.size := by
      rcases Nat.lt_or_ge g w.heap.size with h' | h'
      · exact h'
      · rw [Array.getElem?_eq_none h'] at h; simp at h
    rw [hb.block g hlt]
    exact h
theorem WTab.cell {w : World} (h : WTab w) {i : Nat} {s : List UInt8} (hi : wordsL[i]? = some s) : w.cell? ⟨0, i, none⟩ = some (.string ⟨s.toArray⟩) := by
  have := World.var?_cell (show Tryz.prog.globalNamed "bogie/event.words" = some 0 by kernel_rfl) h i
  rw [this]
  simp [hi]
/-- An array of strings that reads as the table holds the table's strings, cell for cell. -/
theorem cells_of_texts {H : Type} {enc : TypeId × Value → H} {P : Program} {w : World} {base : Nat} {sp : Nat → Bool} {held : Bool} {fuel : Nat} {t e : TypeId} {n : Nat} {cs : List Value} {ss : List (List UInt8)} {p : List MemPlace}
    (ht : P.underlying t = some (.array n e)) (he : P.underlying e = some .string) (hce : P.cellsOf e = 1) (hct : P.cellsOf t = n)
    (h : DataW.trod enc P w base sp held fuel t cs = some (.agg (ss.map fun s => .lit (.string s)), p)) : cs = ss.map fun s => Value.string ⟨s.toArray⟩ := by
  cases fuel with
  | zero => simp [DataW.trod] at h
  | succ fuel =>
    simp only [DataW.trod, ht, hce, hct, Nat.mul_one] at h
    split at h
    · rename_i hl
      obtain ⟨xs, hm, hx⟩ := Option.map_eq_some_iff.1 h
      have hxs : xs.map (·.1) = ss.map fun s => (DataW.lit (.string s) : DataW H) := by
        have := congrArg Prod.fst hx
        simpa using this
      have hxl : xs.length = n := by simpa using Lib.mapM_length hm
      have hzl : ss.length = n := by
        have := congrArg List.length hxs
        simp at this
        omega
      apply List.ext_getElem?
      intro i
      by_cases hi : i < n
      · obtain ⟨b, hb, hf⟩ := Lib.mapM_at hm i i (by simp [hi])
        obtain ⟨s, hc, rfl, _⟩ := DataW.trod_string he hf
        have h1 : cs[i]? = some (.string s) := by
          have := congrArg (·[0]?) hc
          simpa [List.getElem?_take, List.getElem?_drop] using this
        have h2 : (xs.map (·.1))[i]? = some (DataW.lit (.string s.data.toList) : DataW H) := by simp [hb]
        rw [hxs] at h2
        simp only [List.getElem?_map, Option.map_eq_some_iff, DataW.lit.injEq, Lit.string.injEq] at h2
        obtain ⟨s', hs', rfl⟩ := h2
        simp [h1, hs']
      · rw [List.getElem?_eq_none (by omega), List.getElem?_eq_none (by simp; omega)]
    · cases h
theorem wtab_of_head {W : World} {rest : List (String × DataW Unit)} (h : laidMet Tryz.prog (("bogie/event.words", .agg (wordsL.map fun s => .lit (.string s))) :: rest) W) : WTab W := by
  obtain ⟨ps, ⟨g', t', cs, fuel, p, q, hg', ht', hvar, hd, _, _⟩, _⟩ := h
  obtain rfl := Option.some.inj ((show Tryz.prog.globalNamed "bogie/event.words" = some 0 by kernel_rfl).symm.trans hg')
  obtain rfl := Option.some.inj ((show (Tryz.prog.globals[0]?).map (·.type) = some 78 by kernel_rfl).symm.trans ht')
  unfold WTab
  rw [hvar, ← cells_of_texts Tryz.underlying78 Tryz.underlying9 (by kernel_rfl) (by kernel_rfl) hd]

end Go.Proofs.YtfkejnnbfneieaaGreatDoor
