/- Places as keys of a map. -/
import Derived.Test.YtapjnbofhdljfaaMapBool
import Derived.Test.YtapjnbofhdljfaaShut
import Derived.DeepKeys4
namespace Go.Proofs.Ytapjnbofhdljfaa
open Go.RowKit Go.Maps Go.WideMaps

theorem place_keys : Keyed Try.prog 97 := Keyed.of_law (deep_law_laid laidOut (m := 2) (by omega) (by decide +kernel) (by kernel_rfl) (by kernel_rfl))
def placeV (a b : ByteArray) : Value := .agg #[.string a, .string b]
theorem placeV_inj {a b c d : ByteArray} (h : placeV a b = placeV c d) : a = c ∧ b = d := by
  unfold placeV at h
  simp only [Value.agg.injEq, Array.mk.injEq, List.cons.injEq, Value.string.injEq, and_true] at h
  exact h
theorem place_key {a b : ByteArray} (ha : a.size ≤ 9223372036854775807) (hb : b.size ≤ 9223372036854775807) : ∃ l, keyOf Try.prog 97 (placeV a b) = some l := by
  have e1 : Try.prog.keyType 97 = true := by kernel_rfl
  have e2 : (placeV a b).formed Try.prog 97 = true := by kernel_rfl
  have h1 : ∀ d s, s.size ≤ 9223372036854775807 → Try.prog.keyLits (d + 1) 9 [.string s] = some [.string s.data.toList] := fun d s hs => by
    simp only [Program.keyLits, Try.underlying9]
    rw [if_pos (by unfold maxLen; omega)]
  unfold keyOf
  rw [Try.underlying97]
  dsimp only
  rw [e1, e2]
  simp only [Bool.and_self, if_true, Program.keyLits, Try.underlying97]
  obtain ⟨m, hm⟩ : ∃ m, Try.prog.types.size = m + 1 := ⟨Try.prog.types.size - 1, by decide +kernel⟩
  have c1 : Try.prog.cellsOf 9 = 1 := by kernel_rfl
  have e3 : (placeV a b).cells.toList = [.string a, .string b] := by kernel_rfl
  rw [if_pos ⟨by kernel_rfl, by kernel_rfl⟩, hm, e3]
  simp [c1, h1 m a ha, h1 m b hb]
end Go.Proofs.Ytapjnbofhdljfaa
