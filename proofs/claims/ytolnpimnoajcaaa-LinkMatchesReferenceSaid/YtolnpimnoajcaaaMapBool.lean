/- Maps from keys of any type to Booleans, which the call makes. -/
import Derived.Test.YtolnpimnoajcaaaOnly
import Derived.Maps.OwnSet
import Derived.StringKeys
namespace Go.Proofs.Ytolnpimnoajcaaa
open Go.RowKit Go.Maps Go.WideMaps

/-- How a Boolean reads. -/
def boolR : Value → Option (DataW Unit × List MemPlace)
  | .bool b => some (.lit (.bool b), [])
  | _ => none
theorem boolR_of {v : Value} {b : Bool} {ps : List MemPlace} (h : boolR v = some (.lit (.bool b), ps)) : v = .bool b := by
  unfold boolR at h
  split at h
  · simp only [Option.some.injEq, Prod.mk.injEq, DataW.lit.injEq, Lit.bool.injEq] at h
    rw [h.1]
  · cases h
/-- Block b is a map of at most n entries that tells f. -/
def BMap (P : Program) (k : TypeId) (w : World) (b n : Nat) (f : Value → Option Bool) : Prop :=
  ∃ D : DataW Unit, w.ownsMap P k boolR b n D ∧ ∀ v l, keyOf P k v = some l → D.atKey l (.lit (.bool false)) = .lit (.bool ((f v).getD false)) ∧ Maps.has D l = (f v).isSome
section
variable {P : Program} {k t e : TypeId} {w w' : World} {b n : Nat} {f : Value → Option Bool}
theorem BMap.made (P : Program) (k : TypeId) (w : World) : BMap P k (w.alloc (.map #[] 0)) w.heap.size 0 (fun _ => none) :=
  ⟨_, World.ownsMap_made _ _ _ _, fun _ _ _ => ⟨rfl, rfl⟩⟩
theorem BMap.lt (h : BMap P k w b n f) : b < w.heap.size := by
  obtain ⟨D, h1, _⟩ := h
  exact h1.lt
theorem BMap.kept {row : Option Nat} (h : BMap P k w b n f) (hg : w.grownBy w' row) (hne : some b ≠ row) : BMap P k w' b n f := by
  obtain ⟨D, h1, h2⟩ := h
  exact ⟨D, h1.kept hg hne, h2⟩
theorem BMap.below {B : Nat} (h : BMap P k w b n f) (hB : Below B w w') (hb : b < B) : BMap P k w' b n f := by
  obtain ⟨D, ⟨es, clock, hbk, F, hs, hD⟩, h2⟩ := h
  exact ⟨D, ⟨es, clock, (hB.block b hb).trans hbk, F, hs, hD⟩, h2⟩
theorem BMap.mono (h : BMap P k w b n f) {n' : Nat} (hn : n ≤ n') : BMap P k w b n' f := by
  obtain ⟨D, h1, h2⟩ := h
  exact ⟨D, h1.mono hn, h2⟩
theorem BMap.look (K : Keyed P k) (ht : P.underlying t = some (.map k e)) (hz : (zeroValue e).run P w = .ok (.bool false) w) (h : BMap P k w b n f) {v : Value} {l : Lit} (hk : keyOf P k v = some l) :
    (Instr.lookup t (.map (some b)) v false).run P w = .ok (.bool ((f v).getD false)) w := by
  obtain ⟨D, h1, h2⟩ := h
  obtain ⟨u, ps, hrun, hv⟩ := h1.lookup K ht hz (show boolR (.bool false) = some (.lit (.bool false), []) from rfl) hk
  rw [(h2 v l hk).1] at hv
  rw [hrun, boolR_of hv]
theorem BMap.look_ok (K : Keyed P k) (ht : P.underlying t = some (.map k e)) (hz : (zeroValue e).run P w = .ok (.bool false) w) (h : BMap P k w b n f) {v : Value} {l : Lit} (hk : keyOf P k v = some l) :
    (Instr.lookup t (.map (some b)) v true).run P w = .ok (.tuple #[.bool ((f v).getD false), .bool (f v).isSome]) w := by
  obtain ⟨D, h1, h2⟩ := h
  obtain ⟨u, ps, hrun, hv⟩ := h1.look_ok K ht hz (show boolR (.bool false) = some (.lit (.bool false), []) from rfl) hk
  rw [(h2 v l hk).1] at hv
  rw [hrun, boolR_of hv, (h2 v l hk).2]
open Classical in
noncomputable def putF (f : Value → Option Bool) (v : Value) (x : Bool) : Value → Option Bool := fun u => if u = v then some x else f u
theorem BMap.put (K : Keyed P k) (ht : P.underlying t = some (.map k e)) (h : BMap P k w b n f) (hn : n < maxLen) {v : Value} {l : Lit} (hk : keyOf P k v = some l) (x : Bool) :
    ∃ w', (Instr.mapUpdate t (.map (some b)) v (.bool x)).run P w = .ok () w' ∧ BMap P k w' b (n + 1) (putF f v x) ∧ w.grownBy w' (some b) := by
  obtain ⟨D, h1, h2⟩ := h
  obtain ⟨w', hrun, h3, h4⟩ := h1.update K ht hn hk (show boolR (.bool x) = some (.lit (.bool x), []) from rfl)
  refine ⟨w', hrun, ⟨_, h3, fun u lu hu => ?_⟩, h4⟩
  unfold putF
  by_cases e : u = v
  · subst e
    obtain rfl : lu = l := by rw [hu] at hk; exact Option.some.inj hk
    rw [if_pos rfl, atKey_put_same h1.isMap (K.key hu), has_put_same h1.isMap (K.key hu)]
    exact ⟨rfl, rfl⟩
  · have hne : lu ≠ l := fun hh => e (K.inj (hh ▸ hu) hk)
    rw [if_neg e, atKey_put_other hne, has_put_other hne]
    exact h2 u lu hu
theorem wpList_putB {ops : Array Oper} {rest : List Oper} {o : Oper} {a : Act} {Q : Exit → Act → World → Prop} (hg : o.guard = none) (m x v : Operand) (hop : o.op = Op.mapUpdate t m x v)
    (K : Keyed P k) (ht : P.underlying t = some (.map k e)) (b n : Nat) (f : Value → Option Bool) (hm : a.eval m = .map (some b)) (h : BMap P k w b n f) (hn : n < maxLen) (key : Value) (l : Lit) (hkey : keyOf P k key = some l) (y : Bool) (hx : a.eval x = key) (hv : a.eval v = .bool y)
    (hK : ∀ w', BMap P k w' b (n + 1) (putF f key y) → w.grownBy w' (some b) → wpList P ops Q rest (a.put o.dst undef) w') : wpList P ops Q (o :: rest) a w := by
  obtain ⟨D, h1, h2⟩ := h
  refine wpList_mapUpdate_own w hg m x v _ hop k e K ht boolR b n D hm h1 hn _ _ l hx hv hkey (.lit (.bool y)) [] rfl ?_
  intro w' h3 h4
  refine hK w' ⟨_, h3, fun u lu hu => ?_⟩ h4
  unfold putF
  by_cases e : u = key
  · subst e
    obtain rfl : lu = l := by rw [hu] at hkey; exact Option.some.inj hkey
    rw [if_pos rfl, atKey_put_same h1.isMap (K.key hu), has_put_same h1.isMap (K.key hu)]
    exact ⟨rfl, rfl⟩
  · have hne : lu ≠ l := fun hh => e (K.inj (hh ▸ hu) hkey)
    rw [if_neg e, atKey_put_other hne, has_put_other hne]
    exact h2 u lu hu
end
theorem str_keys : Keyed Try.prog 9 := string_keyed Try.underlying9
theorem str_key {s : ByteArray} (hs : s.size ≤ 9223372036854775807) : keyOf Try.prog 9 (.string s) = some (.string s.data.toList) := keyOf_string_mk Try.underlying9 (by unfold maxLen; omega)
theorem zero_bool (w : World) : (zeroValue 4).run Try.prog w = .ok (.bool false) w := by kernel_rfl
end Go.Proofs.Ytolnpimnoajcaaa
