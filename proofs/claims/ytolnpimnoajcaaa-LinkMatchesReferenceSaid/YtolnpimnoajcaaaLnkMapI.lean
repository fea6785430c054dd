/- A map from indices to indices, which the call makes. -/
import Derived.Test.YtolnpimnoajcaaaLnkMap
import Derived.WalkArith
namespace Go.Proofs.Ytolnpimnoajcaaa
open Go.RowKit Go.Maps Go.WideMaps

theorem intI_keys : Keyed Try.prog 3 := int_keyed Try.underlying3
/-- Block b is a map of at most n entries that tells f. -/
def JMap (w : World) (b n : Nat) (f : Nat → Option Nat) : Prop :=
  ∃ D : DataW Unit, w.ownsMap Try.prog 3 intR b n D ∧ ∀ s : Nat, s ≤ 1000000 → D.atKey (.int .i64 s) (.lit (.int .i64 0)) = .lit (.int .i64 ((f s).getD 0 : Nat)) ∧ Maps.has D (.int .i64 s) = (f s).isSome
section
variable {w w' : World} {b n : Nat} {f : Nat → Option Nat}
theorem JMap.made (w : World) : JMap (w.alloc (.map #[] 0)) w.heap.size 0 (fun _ => none) :=
  ⟨_, World.ownsMap_made _ _ _ _, fun _ _ => ⟨rfl, rfl⟩⟩
theorem JMap.lt (h : JMap w b n f) : b < w.heap.size := by
  obtain ⟨D, h1, _⟩ := h
  exact h1.lt
theorem JMap.kept {row : Option Nat} (h : JMap w b n f) (hg : w.grownBy w' row) (hne : some b ≠ row) : JMap w' b n f := by
  obtain ⟨D, h1, h2⟩ := h
  exact ⟨D, h1.kept hg hne, h2⟩
theorem JMap.below {B : Nat} (h : JMap w b n f) (hB : Below B w w') (hb : b < B) : JMap w' b n f := by
  obtain ⟨D, ⟨es, clock, hbk, F, hs, hD⟩, h2⟩ := h
  exact ⟨D, ⟨es, clock, (hB.block b hb).trans hbk, F, hs, hD⟩, h2⟩
theorem JMap.mono (h : JMap w b n f) {n' : Nat} (hn : n ≤ n') : JMap w b n' f := by
  obtain ⟨D, h1, h2⟩ := h
  exact ⟨D, h1.mono hn, h2⟩
theorem key_int {s : Nat} (hs : s ≤ 1000000) : keyOf Try.prog 3 (.int .i64 s) = some (.int .i64 s) :=
  keyOf_int_mk Try.underlying3 (WalkArith.wf_i64 (by omega))
theorem JMap.look_ok (h : JMap w b n f) {s : Nat} (hs : s ≤ 1000000) :
    (Instr.lookup 68 (.map (some b)) (.int .i64 s) true).run Try.prog w = .ok (.tuple #[.int .i64 ((f s).getD 0 : Nat), .bool (f s).isSome]) w := by
  obtain ⟨D, h1, h2⟩ := h
  obtain ⟨v, ps, hrun, hv⟩ := h1.look_ok intI_keys Try.underlying68 (zero_intI w) (show intR (.int .i64 0) = some (.lit (.int .i64 0), []) from rfl) (key_int hs)
  rw [(h2 s hs).1] at hv
  rw [hrun, intR_of hv, (h2 s hs).2]
set_option maxRecDepth 100000 in
theorem JMap.put (h : JMap w b n f) (hn : n < maxLen) {s : Nat} (hs : s ≤ 1000000) (z : Nat) :
    ∃ w', (Instr.mapUpdate 68 (.map (some b)) (.int .i64 s) (.int .i64 z)).run Try.prog w = .ok () w' ∧ JMap w' b (n + 1) (fun x => if x = s then some z else f x) ∧ w.grownBy w' (some b) := by
  obtain ⟨D, h1, h2⟩ := h
  obtain ⟨w', hrun, h3, h4⟩ := h1.update intI_keys Try.underlying68 hn (key_int hs) (show intR (.int .i64 z) = some (.lit (.int .i64 z), []) from rfl)
  refine ⟨w', hrun, ⟨_, h3, fun u hu => ?_⟩, h4⟩
  dsimp only
  by_cases e : u = s
  · subst e
    rw [if_pos rfl, atKey_put_same h1.isMap (intI_keys.key (key_int hu)), has_put_same h1.isMap (intI_keys.key (key_int hu))]
    exact ⟨rfl, rfl⟩
  · have hne : (Lit.int .i64 u : Lit) ≠ Lit.int .i64 s := fun hh => e (by injection hh with _ hh; omega)
    rw [if_neg e, atKey_put_other hne, has_put_other hne]
    exact h2 u hu
end
end Go.Proofs.Ytolnpimnoajcaaa
