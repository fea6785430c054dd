/- A map from texts to blocks, which the call makes. -/
import Derived.Test.YtfokbcakbbdlaaaHldSl
import Derived.Maps.OwnSet
import Derived.StringKeys
namespace Go.Proofs.Ytfokbcakbbdlaaa
open Go.RowKit Go.Maps Go.WideMaps
open Hld (Rc Hd)

theorem map_law : Keyed Try.prog 9 := string_keyed Try.underlying9
theorem zero_ptr (w : World) : (zeroValue 62).run Try.prog w = .ok (.pointer none) w := by kernel_rfl
/-- How a pointer to a block's head reads. -/
def ptrR : Value → Option (DataW Unit × List MemPlace)
  | .pointer none => some (.nil, [])
  | .pointer (some ⟨g, 0, none⟩) => some (.lit (.int .i64 g), [])
  | _ => none
def ptrOf (o : Option Nat) : Value := .pointer (o.map fun g => ⟨g, 0, none⟩)
def ptrD (o : Option Nat) : DataW Unit := match o with | none => .nil | some g => .lit (.int .i64 g)
theorem ptrR_of {v : Value} {o : Option Nat} {ps : List MemPlace} (h : ptrR v = some (ptrD o, ps)) : v = ptrOf o := by
  unfold ptrR at h
  split at h
  · cases o with
    | none => rfl
    | some g => simp [ptrD] at h
  · rename_i g
    cases o with
    | none => simp [ptrD] at h
    | some g' =>
      simp only [ptrD, Option.some.injEq, Prod.mk.injEq, DataW.lit.injEq, Lit.int.injEq, true_and] at h
      have : g = g' := by omega
      subst this
      rfl
  · cases h

/-- Block b is a map of at most n entries that tells f. -/
def PMap (w : World) (b n : Nat) (f : ByteArray → Option Nat) : Prop :=
  ∃ D : DataW Unit, w.ownsMap Try.prog 9 ptrR b n D ∧ ∀ s : ByteArray, s.size ≤ maxLen → D.atKey (.string s.data.toList) .nil = ptrD (f s) ∧ Maps.has D (.string s.data.toList) = (f s).isSome
theorem PMap.made (w : World) : PMap (w.alloc (.map #[] 0)) w.heap.size 0 (fun _ => none) :=
  ⟨_, World.ownsMap_made _ _ _ _, fun s _ => ⟨rfl, rfl⟩⟩
theorem PMap.kept {w w' : World} {b n : Nat} {f : ByteArray → Option Nat} {row : Option Nat} (h : PMap w b n f) (hg : w.grownBy w' row) (hne : some b ≠ row) : PMap w' b n f := by
  obtain ⟨D, h1, h2⟩ := h
  exact ⟨D, h1.kept hg hne, h2⟩
theorem PMap.setCell {w : World} {b n : Nat} {f : ByteArray → Option Nat} (h : PMap w b n f) {a : Addr} (ha : b ≠ a.block) (u : Value) : PMap (w.setCell a u) b n f := by
  obtain ⟨D, h1, h2⟩ := h
  exact ⟨D, h1.setCell ha u, h2⟩
theorem PMap.lt {w : World} {b n : Nat} {f : ByteArray → Option Nat} (h : PMap w b n f) : b < w.heap.size := by
  obtain ⟨D, h1, _⟩ := h
  exact h1.lt
theorem PMap.ne {w : World} {b n : Nat} {f : ByteArray → Option Nat} (h : PMap w b n f) {g : Nat} {t : TypeId} {cs : Array Value} (hg : Whole w g t cs) : b ≠ g := fun e => by
  subst e
  obtain ⟨D, ⟨es, clock, hb, _⟩, _⟩ := h
  have := hb.symm.trans hg
  cases this
theorem PMap.ne_row {w : World} {b n : Nat} {f : ByteArray → Option Nat} (h : PMap w b n f) {base : Nat} {e : TypeId} {size k : Nat} {v : Value} {xs : List Value} (hv : w.ownsRow base e size v k xs) : some b ≠ v.ownBlock := fun he => by
  rcases hv.2 with ⟨rfl, _⟩ | ⟨g, cap, cur, rfl, _, hc, _⟩
  · simp [Value.ownBlock] at he
  · have : b = g := by simpa [Value.ownBlock] using he
    exact h.ne (show Whole w g e cur from hc) this
theorem PMap.look {w : World} {b n : Nat} {f : ByteArray → Option Nat} (h : PMap w b n f) {s : ByteArray} (hs : s.size ≤ maxLen) :
    (Instr.lookup 61 (.map (some b)) (.string s) false).run Try.prog w = .ok (ptrOf (f s)) w := by
  obtain ⟨D, h1, h2⟩ := h
  obtain ⟨v, ps, hrun, hv⟩ := h1.lookup map_law Try.underlying61 (zero_ptr w) (show ptrR (.pointer none) = some (.nil, []) from rfl) (keyOf_string_mk Try.underlying9 hs)
  rw [(h2 s hs).1] at hv
  rw [hrun, ptrR_of hv]
theorem PMap.look_ok {w : World} {b n : Nat} {f : ByteArray → Option Nat} (h : PMap w b n f) {s : ByteArray} (hs : s.size ≤ maxLen) :
    (Instr.lookup 61 (.map (some b)) (.string s) true).run Try.prog w = .ok (.tuple #[ptrOf (f s), .bool (f s).isSome]) w := by
  obtain ⟨D, h1, h2⟩ := h
  obtain ⟨v, ps, hrun, hv⟩ := h1.look_ok map_law Try.underlying61 (zero_ptr w) (show ptrR (.pointer none) = some (.nil, []) from rfl) (keyOf_string_mk Try.underlying9 hs)
  rw [(h2 s hs).1] at hv
  rw [hrun, ptrR_of hv, (h2 s hs).2]
theorem key_ne {s t : ByteArray} (h : s ≠ t) : Lit.string s.data.toList ≠ Lit.string t.data.toList := fun e => by
  apply h
  injection e with e
  cases s; cases t
  simp only [ByteArray.mk.injEq]
  exact Array.ext' e
theorem wpList_put {w : World} {ops : Array Oper} {rest : List Oper} {o : Oper} {a : Act} {Q : Exit → Act → World → Prop} (hg : o.guard = none) (m x v : Operand) (hop : o.op = Op.mapUpdate 61 m x v)
    (b n : Nat) (f : ByteArray → Option Nat) (hm : a.eval m = .map (some b)) (h : PMap w b n f) (hn : n < maxLen) (s : ByteArray) (hs : s.size ≤ maxLen) (g : Nat) (hx : a.eval x = .string s) (hv : a.eval v = .pointer (some ⟨g, 0, none⟩))
    (hK : ∀ w', PMap w' b (n + 1) (fun t => if t = s then some g else f t) → w.grownBy w' (some b) → wpList Try.prog ops Q rest (a.put o.dst undef) w') : wpList Try.prog ops Q (o :: rest) a w := by
  obtain ⟨D, h1, h2⟩ := h
  refine wpList_mapUpdate_own w hg m x v _ hop 9 62 map_law Try.underlying61 ptrR b n D hm h1 hn _ _ (.string s.data.toList) hx hv (keyOf_string_mk Try.underlying9 hs) (.lit (.int .i64 g)) [] rfl ?_
  intro w' h3 h4
  refine hK w' ⟨_, h3, fun t ht => ?_⟩ h4
  dsimp only
  by_cases e : t = s
  · subst e
    rw [if_pos rfl, atKey_put_same h1.isMap (map_law.key (keyOf_string_mk Try.underlying9 ht)), has_put_same h1.isMap (map_law.key (keyOf_string_mk Try.underlying9 ht))]
    exact ⟨rfl, rfl⟩
  · rw [if_neg e, atKey_put_other (key_ne e), has_put_other (key_ne e)]
    exact h2 t ht

end Go.Proofs.Ytfokbcakbbdlaaa
