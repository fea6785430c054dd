/- A map from texts to indices, which the call makes. -/
import Derived.Test.YtolnpimnoajcaaaOnly
import Derived.Maps.OwnSet
import Derived.StringKeys
namespace Go.Proofs.Ytolnpimnoajcaaa
open Go.RowKit Go.Maps Go.WideMaps

theorem strI_keys : Keyed Try.prog 9 := string_keyed Try.underlying9
theorem zero_intI (w : World) : (zeroValue 3).run Try.prog w = .ok (.int .i64 0) w := by kernel_rfl
/-- How an integer reads. -/
def intR : Value → Option (DataW Unit × List MemPlace)
  | .int .i64 z => some (.lit (.int .i64 z), [])
  | _ => none
theorem intR_of {v : Value} {z : Int} {ps : List MemPlace} (h : intR v = some (.lit (.int .i64 z), ps)) : v = .int .i64 z := by
  unfold intR at h
  split at h
  · simp only [Option.some.injEq, Prod.mk.injEq, DataW.lit.injEq, Lit.int.injEq, true_and] at h
    rw [h.1]
  · cases h
/-- Block b is a map of at most n entries that tells f. -/
def IMap (w : World) (b n : Nat) (f : List UInt8 → Option Nat) : Prop :=
  ∃ D : DataW Unit, w.ownsMap Try.prog 9 intR b n D ∧ ∀ s : List UInt8, s.length ≤ maxLen → D.atKey (.string s) (.lit (.int .i64 0)) = .lit (.int .i64 ((f s).getD 0 : Nat)) ∧ Maps.has D (.string s) = (f s).isSome
section
variable {w w' : World} {b n : Nat} {f : List UInt8 → Option Nat}
theorem IMap.made (w : World) : IMap (w.alloc (.map #[] 0)) w.heap.size 0 (fun _ => none) :=
  ⟨_, World.ownsMap_made _ _ _ _, fun _ _ => ⟨rfl, rfl⟩⟩
theorem IMap.lt (h : IMap w b n f) : b < w.heap.size := by
  obtain ⟨D, h1, _⟩ := h
  exact h1.lt
theorem IMap.kept {row : Option Nat} (h : IMap w b n f) (hg : w.grownBy w' row) (hne : some b ≠ row) : IMap w' b n f := by
  obtain ⟨D, h1, h2⟩ := h
  exact ⟨D, h1.kept hg hne, h2⟩
theorem IMap.below {B : Nat} (h : IMap w b n f) (hB : Below B w w') (hb : b < B) : IMap w' b n f := by
  obtain ⟨D, ⟨es, clock, hbk, F, hs, hD⟩, h2⟩ := h
  exact ⟨D, ⟨es, clock, (hB.block b hb).trans hbk, F, hs, hD⟩, h2⟩
theorem IMap.mono (h : IMap w b n f) {n' : Nat} (hn : n ≤ n') : IMap w b n' f := by
  obtain ⟨D, h1, h2⟩ := h
  exact ⟨D, h1.mono hn, h2⟩
theorem key_str {s : List UInt8} (hs : s.length ≤ maxLen) : keyOf Try.prog 9 (.string ⟨s.toArray⟩) = some (.string s) :=
  keyOf_string_mk Try.underlying9 (s := ⟨s.toArray⟩) (by simpa [ByteArray.size] using hs)
theorem IMap.look_ok (h : IMap w b n f) {s : List UInt8} (hs : s.length ≤ maxLen) :
    (Instr.lookup 35 (.map (some b)) (.string ⟨s.toArray⟩) true).run Try.prog w = .ok (.tuple #[.int .i64 ((f s).getD 0 : Nat), .bool (f s).isSome]) w := by
  obtain ⟨D, h1, h2⟩ := h
  obtain ⟨v, ps, hrun, hv⟩ := h1.look_ok strI_keys Try.underlying35 (zero_intI w) (show intR (.int .i64 0) = some (.lit (.int .i64 0), []) from rfl) (key_str hs)
  rw [(h2 s hs).1] at hv
  rw [hrun, intR_of hv, (h2 s hs).2]
theorem IMap.put (h : IMap w b n f) (hn : n < maxLen) {s : List UInt8} (hs : s.length ≤ maxLen) (z : Nat) :
    ∃ w', (Instr.mapUpdate 35 (.map (some b)) (.string ⟨s.toArray⟩) (.int .i64 z)).run Try.prog w = .ok () w' ∧ IMap w' b (n + 1) (fun x => if x = s then some z else f x) ∧ w.grownBy w' (some b) := by
  obtain ⟨D, h1, h2⟩ := h
  obtain ⟨w', hrun, h3, h4⟩ := h1.update strI_keys Try.underlying35 hn (key_str hs) (show intR (.int .i64 z) = some (.lit (.int .i64 z), []) from rfl)
  refine ⟨w', hrun, ⟨_, h3, fun u hu => ?_⟩, h4⟩
  dsimp only
  by_cases e : u = s
  · subst e
    rw [if_pos rfl, atKey_put_same h1.isMap (strI_keys.key (key_str hu)), has_put_same h1.isMap (strI_keys.key (key_str hu))]
    exact ⟨rfl, rfl⟩
  · have hne : Lit.string u ≠ Lit.string s := fun hh => e (by injection hh)
    rw [if_neg e, atKey_put_other hne, has_put_other hne]
    exact h2 u hu
end
end Go.Proofs.Ytolnpimnoajcaaa
