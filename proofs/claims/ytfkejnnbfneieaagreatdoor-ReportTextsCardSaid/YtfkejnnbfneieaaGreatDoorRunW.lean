/- Runs of single operations, of any types. Of no seat's types. -/
import Derived.Test.YtfkejnnbfneieaaGreatDoorMonoG
import Derived.Deep.MidRow
import Derived.Test.YtfkejnnbfneieaaGreatDoorMem
import Derived.Test.YtfkejnnbfneieaaGreatDoorEntGuard
import Derived.Test.YtfkejnnbfneieaaGreatDoorOnly
import Derived.Test.YtfkejnnbfneieaaGreatDoorMemCopy
import Derived.Laws.Tables
namespace Go.Proofs.YtfkejnnbfneieaaGreatDoor
open Go.RowKit

section
variable {P : Program} (d : Option Tmp) (t : TypeId) (pos : String) (af : Array Edge) (g : Option (Nat × Bool)) (A : Act) (w : World)
theorem rMove (x : Operand) (v : Value) (hx : A.eval x = v) : (execOp A.eval ⟨d, .move x, t, pos, af, g⟩).run P w = .ok (.value v) w := by
  subst hx; rfl
theorem rAssign (x : Operand) (v : Value) (hx : A.eval x = v) : (execOp A.eval ⟨d, .assign x, t, pos, af, g⟩).run P w = .ok (.value v) w := by
  subst hx; rfl
theorem rPick (x y z : Operand) (b : Bool) (v : Value) (hx : A.eval x = .bool b) (hv : (if b then A.eval y else A.eval z) = v) : (execOp A.eval ⟨d, .pick x y z, t, pos, af, g⟩).run P w = .ok (.value v) w := by
  subst hv
  unfold execOp
  simp only [hx]
  go_simp
theorem rNot (T : TypeId) (x : Operand) (b : Bool) (hx : A.eval x = .bool b) : (execOp A.eval ⟨d, .unOp .not T x, t, pos, af, g⟩).run P w = .ok (.value (.bool !b)) w := by
  unfold execOp
  simp only [hx]
  go_simp
theorem rEqlInt (T U : TypeId) (x y : Operand) (a b : Int) (hx : A.eval x = .int .i64 a) (hy : A.eval y = .int .i64 b) : (execOp A.eval ⟨d, .binOp .eql T x y U, t, pos, af, g⟩).run P w = .ok (.value (.bool (a == b))) w := by
  unfold execOp
  simp only [hx, hy]
  go_simp
theorem rLssInt (T U : TypeId) (x y : Operand) (a b : Int) (hx : A.eval x = .int .i64 a) (hy : A.eval y = .int .i64 b) : (execOp A.eval ⟨d, .binOp .lss T x y U, t, pos, af, g⟩).run P w = .ok (.value (.bool (decide (a < b)))) w := by
  unfold execOp
  simp only [hx, hy]
  go_simp
theorem rGtrInt (T U : TypeId) (x y : Operand) (a b : Int) (hx : A.eval x = .int .i64 a) (hy : A.eval y = .int .i64 b) : (execOp A.eval ⟨d, .binOp .gtr T x y U, t, pos, af, g⟩).run P w = .ok (.value (.bool (decide (b < a)))) w := by
  unfold execOp
  simp only [hx, hy]
  go_simp
theorem rEqlStr (T U : TypeId) (x y : Operand) (a b : ByteArray) (hx : A.eval x = .string a) (hy : A.eval y = .string b) : (execOp A.eval ⟨d, .binOp .eql T x y U, t, pos, af, g⟩).run P w = .ok (.value (.bool (a.toList == b.toList))) w := by
  unfold execOp
  simp only [hx, hy]
  go_simp
theorem rEqlStrT (T U : TypeId) (x y : Operand) (a : ByteArray) (hx : A.eval x = .string a) (hy : A.eval y = .string a) : (execOp A.eval ⟨d, .binOp .eql T x y U, t, pos, af, g⟩).run P w = .ok (.value (.bool true)) w := by
  rw [rEqlStr d t pos af g A w T U x y a a hx hy]
  simp
theorem rAddInt (T U : TypeId) (x y : Operand) (a b c : Int) (hx : A.eval x = .int .i64 a) (hy : A.eval y = .int .i64 b) (hc : IntKind.i64.wrap (a + b) = c) : (execOp A.eval ⟨d, .binOp .add T x y U, t, pos, af, g⟩).run P w = .ok (.value (.int .i64 c)) w := by
  subst hc
  unfold execOp
  simp only [hx, hy]
  go_simp
theorem rSubInt (T U : TypeId) (x y : Operand) (a b c : Int) (hx : A.eval x = .int .i64 a) (hy : A.eval y = .int .i64 b) (hc : IntKind.i64.wrap (a - b) = c) : (execOp A.eval ⟨d, .binOp .sub T x y U, t, pos, af, g⟩).run P w = .ok (.value (.int .i64 c)) w := by
  subst hc
  unfold execOp
  simp only [hx, hy]
  go_simp
theorem rField (S : TypeId) (x : Operand) (k : Nat) (b o q : Nat) (fs : Array Field) (f : Field) (hS : P.underlying S = some (.struct fs)) (hf : fs[k]? = some f) (hz0 : (P.cellsOf f.type == 0) = false) (ho : o + f.offset = q) (hi : (P.info? f.type).isSome = true) (hx : A.eval x = .pointer (some ⟨b, o, none⟩)) :
    (execOp A.eval ⟨d, .fieldAddr S x k, t, pos, af, g⟩).run P w = .ok (.value (.pointer (some ⟨b, q, none⟩))) w := by
  subst ho
  obtain ⟨i, hi⟩ := Option.isSome_iff_exists.1 hi
  have hz : P.cellsOf f.type ≠ 0 := by simpa using hz0
  have hz' : i.size ≠ 0 := by
    intro h
    apply hz
    unfold Program.cellsOf
    rw [hi]
    exact h
  have e : (⟨b, o, none⟩ : Addr).add f.offset = ⟨b, o + f.offset, none⟩ := Addr.add_mid _ _ _
  unfold execOp
  simp only [hx]
  simp [Instr.fieldAt, fieldPlace, Instr.sureAddr, Sem.run_bind, run_underlying hS, hf, sizeOf, typeInfo, hi, hz', e]
theorem rLoad (T : TypeId) (x : Operand) (b o : Nat) (cs : List Value) (dd : TypeDesc) (hc : w.rangeAt b o cs) (hu : P.underlying T = some dd) (hd : dd.isRow = true) (hi : (P.info? T).map (·.size) = some cs.length) (hx : A.eval x = .pointer (some ⟨b, o, none⟩)) :
    (execOp A.eval ⟨d, .load T x, t, pos, af, g⟩).run P w = .ok (.value (.agg cs.toArray)) w := by
  unfold execOp
  simp only [hx, Instr.loadAt, Instr.sureAddr, Sem.run_bind, Sem.run_pure, Result.andThen_ok, run_loadVar_mid w b o T cs dd hc hu hd hi]
theorem rLoad1 (T : TypeId) (x : Operand) (p : Addr) (v : Value) (dd : TypeDesc) (hu : P.underlying T = some dd) (hd : dd.isRow = false) (hc : w.cell? p = some v) (hx : A.eval x = .pointer (some p)) :
    (execOp A.eval ⟨d, .load T x, t, pos, af, g⟩).run P w = .ok (.value v) w := by
  have hagg : (isAgg T).run P w = .ok false w := by
    unfold isAgg
    rw [Sem.run_bind, run_underlying hu w]
    cases dd <;> simp_all
  unfold execOp
  simp only [hx, Instr.loadAt, Instr.sureAddr, Sem.run_bind, Sem.run_pure, Result.andThen_ok, loadVar, hagg]
  simp [hc]
theorem rIndex (T e : TypeId) (sz : Nat) (x y : Operand) (b o n c j : Nat) (z : Int) (hT : P.underlying T = some (.slice e)) (hs : (P.info? e).map (·.size) = some sz) (hz : z = j) (hj : j < n) (hx : A.eval x = .slice (some ⟨b, o, none⟩) n c) (hy : A.eval y = .int .i64 z) :
    (execOp A.eval ⟨d, .indexAddr T x y, t, pos, af, g⟩).run P w = .ok (.value (.pointer (some ⟨b, o + j * sz, none⟩))) w := by
  subst hz
  obtain ⟨i, hi, hi2⟩ := Option.map_eq_some_iff.1 hs
  have he : P.elem T = e := by unfold Program.elem; rw [hT]
  have h0 : (0 : Int) ≤ j := by omega
  have h1 : (j : Int) < n := by omega
  unfold execOp
  simp only [hx, hy, Sem.run_bind]
  rw [run_indexAt_slice w T _ _ _ _ _ (by rw [he]; exact hT), he, if_pos ⟨h0, h1⟩]
  simp [sizeOf, typeInfo, hi, hi2, Sem.run_bind, Addr.add_mid]
theorem rLen (T : TypeId) (x : Operand) (ao : Option Addr) (n c : Nat) (e : TypeId) (hT : P.underlying T = some (.slice e)) (hx : A.eval x = .slice ao n c) :
    (execOp A.eval ⟨d, .call { callee := .builtin .len, args := #[x], argTypes := #[T] }, t, pos, af, g⟩).run P w = .ok (.value (.int .i64 n)) w := by
  have he : P.elem T = e := by unfold Program.elem; rw [hT]
  unfold execOp
  have := run_len_slice (P := P) (w := w) T t ao n c (by rw [he]; exact hT)
  simp [resolve, hx, invoke, builtin, this, goInt]
theorem rGeqStr (T U : TypeId) (x y : Operand) (a b : ByteArray) (hx : A.eval x = .string a) (hy : A.eval y = .string b) : (execOp A.eval ⟨d, .binOp .geq T x y U, t, pos, af, g⟩).run P w = .ok (.value (.bool (!Op.bytesLess a.toList b.toList))) w := by
  unfold execOp
  simp only [hx, hy]
  go_simp
theorem rGeqIntF (T U : TypeId) (x y : Operand) (a b : Int) (h : a < b) (hx : A.eval x = .int .i64 a) (hy : A.eval y = .int .i64 b) : (execOp A.eval ⟨d, .binOp .geq T x y U, t, pos, af, g⟩).run P w = .ok (.value (.bool false)) w := by
  have e : decide (b ≤ a) = false := decide_eq_false (by omega)
  unfold execOp
  simp only [hx, hy]
  go_simp
  try omega
end
end Go.Proofs.YtfkejnnbfneieaaGreatDoor

/- Slices of slices: runs of single operations; lists in memory, cut. -/
namespace Go.Proofs.YtfkejnnbfneieaaGreatDoor
open Go.RowKit

section
variable {P : Program} (d : Option Tmp) (t : TypeId) (pos : String) (af : Array Edge) (g : Option (Nat × Bool)) (A : Act) (w : World)
theorem rHead (T e : TypeId) (sz : Nat) (x y : Operand) (ao : Option Addr) (n c k : Nat) (hT : P.underlying T = some (.slice e)) (hs : (P.info? e).map (·.size) = some sz) (hk : k ≤ c) (hx : A.eval x = .slice ao n c) (hy : A.eval y = .int .i64 k) :
    (execOp A.eval ⟨d, .slice T x none (some y) none, t, pos, af, g⟩).run P w = .ok (.value (sliced ao 0 k c sz)) w := by
  obtain ⟨i, hi, hi2⟩ := Option.map_eq_some_iff.1 hs
  have he : P.elem T = e := by unfold Program.elem; rw [hT]
  have hT' : P.underlying T = some (.slice (P.elem T)) := by rw [he]; exact hT
  have h0 : (0 : Int) ≤ k := by omega
  have h2 : (k : Int) ≤ c := by omega
  have h1 := run_slice_h (P := P) w T ao n c hT' .i64 k h0 h2
  have h3 : (sizeOf e).run P w = .ok sz w := by simp [sizeOf, typeInfo, hi, hi2, Sem.run_bind]
  have h4 := run_sliceAt_slice (P := P) w T (.slice ao n c) none (some (.int .i64 k)) none hT'
  rw [h1, he, h3] at h4
  unfold execOp
  simp only [hx, hy, Option.map_some, Option.map_none, Sem.run_bind, h4, Result.andThen_ok, Sem.run_pure, Int.toNat_natCast]
theorem rTail (T e : TypeId) (sz : Nat) (x y : Operand) (ao : Option Addr) (n c k : Nat) (hT : P.underlying T = some (.slice e)) (hs : (P.info? e).map (·.size) = some sz) (hk : k ≤ n) (hx : A.eval x = .slice ao n c) (hy : A.eval y = .int .i64 k) :
    (execOp A.eval ⟨d, .slice T x (some y) none none, t, pos, af, g⟩).run P w = .ok (.value (sliced ao k n c sz)) w := by
  obtain ⟨i, hi, hi2⟩ := Option.map_eq_some_iff.1 hs
  have he : P.elem T = e := by unfold Program.elem; rw [hT]
  have hT' : P.underlying T = some (.slice (P.elem T)) := by rw [he]; exact hT
  have h0 : (0 : Int) ≤ k := by omega
  have h2 : (k : Int) ≤ n := by omega
  have h1 := run_slice_l (P := P) w T ao n c hT' .i64 k h0 h2
  have h3 : (sizeOf e).run P w = .ok sz w := by simp [sizeOf, typeInfo, hi, hi2, Sem.run_bind]
  have h4 := run_sliceAt_slice (P := P) w T (.slice ao n c) (some (.int .i64 k)) none none hT'
  rw [h1, he, h3] at h4
  unfold execOp
  simp only [hx, hy, Option.map_some, Option.map_none, Sem.run_bind, h4, Result.andThen_ok, Sem.run_pure, Int.toNat_natCast]
end
section
variable {α : Type} {size : Nat} {El : World → List Value → α → Prop} {W : World} {ao : Option Addr} {l : List α} {c k : Nat}
theorem IsL.headL (h : IsL size El W ao l) : ∃ bo, sliced ao 0 k c size = .slice bo k c ∧ IsL size El W bo (l.take k) := by
  unfold sliced
  rw [Nat.sub_zero, Nat.sub_zero]
  refine ⟨_, rfl, ?_⟩
  rcases h with rfl | ⟨bk, off, rfl, hb, hr⟩
  · exact Or.inl (by simp)
  · have e : (if c = 0 then some (⟨bk, off, none⟩ : Addr) else Option.map (fun (x : Addr) => x.add (0 * size)) (some (⟨bk, off, none⟩ : Addr))) = some (⟨bk, off, none⟩ : Addr) := by
      split
      · rfl
      · show some ((⟨bk, off, none⟩ : Addr).add (0 * size)) = _
        rw [Nat.zero_mul]; rfl
    rw [e]
    exact (IsL.take (l := l) (Or.inr ⟨bk, off, rfl, hb, hr⟩) k)
theorem IsL.dropL {bk off : Nat} (h : IsL size El W (some ⟨bk, off, none⟩) l) (k : Nat) : IsL size El W (some ⟨bk, off + k * size, none⟩) (l.drop k) := by
  rcases h with rfl | ⟨bk', off', e, hb, hr⟩
  · exact Or.inl (by simp)
  · injection e with e
    injection e with e1 e2
    subst e1 e2
    refine Or.inr ⟨bk, _, rfl, hb, fun j hj => ?_⟩
    have hj' : j < l.length - k := by simpa using hj
    obtain ⟨cs, h1, h2⟩ := hr (k + j) (by omega)
    refine ⟨cs, ?_, ?_⟩
    · have : off + (k + j) * size = off + k * size + j * size := by rw [Nat.add_mul]; omega
      rw [← this]; exact h1
    · rw [List.getElem_drop]; exact h2
theorem IsL.tailL (h : IsL size El W ao l) (hk : k ≤ l.length) (hn : l.length ≤ c) : ∃ bo, sliced ao k l.length c size = .slice bo (l.length - k) (c - k) ∧ IsL size El W bo (l.drop k) := by
  unfold sliced
  refine ⟨_, rfl, ?_⟩
  by_cases hc : c = k
  · have : l.drop k = [] := List.drop_eq_nil_of_le (by omega)
    rw [this]; exact Or.inl rfl
  · rw [if_neg hc]
    by_cases h0 : l = []
    · subst h0; exact Or.inl (by simp)
    · rcases h with rfl | ⟨bk, off, rfl, hb, hr⟩
      · exact absurd rfl h0
      · have e : Option.map (fun (x : Addr) => x.add (k * size)) (some (⟨bk, off, none⟩ : Addr)) = some (⟨bk, off + k * size, none⟩ : Addr) := by
          show some ((⟨bk, off, none⟩ : Addr).add (k * size)) = _
          rw [Addr.add_mid]
        rw [e]
        exact IsL.dropL (Or.inr ⟨bk, off, rfl, hb, hr⟩) k
end
end Go.Proofs.YtfkejnnbfneieaaGreatDoor

/- A region that draws its order, of operations of which some are guarded: facts of the world that speak of the values of several operations, each until one of its operations uses it up. Of no seat's types. -/
namespace Go.Proofs.YtfkejnnbfneieaaGreatDoor
open Go.RowKit

/-- The operations that use a fact up, and those of whose values it speaks. -/
abbrev EKey := List Nat × List Nat
def valOf (e : Ent) (j : Nat) : Value := (e j).getD undef
theorem valOf_some {e : Ent} {j : Nat} {v : Value} (h : e j = some v) : valOf e j = v := by unfold valOf; rw [h]; rfl
structure EFacts (ops : Array Oper) (L : List EKey) (prop : Nat → (Nat → Value) → World → Prop) (pv : Nat → Value → Prop) (e : Ent) (w : World) : Prop where
  of : ∀ (k : Nat) (kl nd : List Nat), L[k]? = some (kl, nd) → (∀ j ∈ kl, e j = none) → (∀ j ∈ nd, e j ≠ none ∧ Want ops e j) → prop k (valOf e) w
  pure : ∀ k u, e k = some u → Want ops e k → pv k u
  order : ∀ j i, e j ≠ none → Region.waitsFor .any ops j i = true → e i ≠ none
/-- What an operation must leave. -/
structure LeavesE (ops : Array Oper) (L : List EKey) (prop : Nat → (Nat → Value) → World → Prop) (e : Ent) (i : Nat) (w : World) (v : Value) (w' : World) : Prop where
  new : ∀ (k : Nat) (kl nd : List Nat), L[k]? = some (kl, nd) → i ∈ nd → i ∉ kl → (∀ j ∈ kl, e j = none) → (∀ j ∈ nd, j ≠ i → e j ≠ none ∧ Want ops e j) → prop k (valOf (entUpd e i v)) w'
  old : ∀ (k : Nat) (kl nd : List Nat), L[k]? = some (kl, nd) → i ∉ nd → i ∉ kl → (∀ j ∈ kl, e j = none) → (∀ j ∈ nd, e j ≠ none) → prop k (valOf e) w → prop k (valOf e) w'
section
variable {ops : Array Oper} {L : List EKey} {prop : Nat → (Nat → Value) → World → Prop} {pv : Nat → Value → Prop} {e : Ent} {w w' : World} {i : Nat} {v : Value}
theorem LeavesE.below (hst : ∀ k val w w', prop k val w → Below w.heap.size w w' → prop k val w') (hb : Below w.heap.size w w')
    (h : ∀ (k : Nat) (kl nd : List Nat), L[k]? = some (kl, nd) → i ∈ nd → i ∉ kl → (∀ j ∈ kl, e j = none) → (∀ j ∈ nd, j ≠ i → e j ≠ none ∧ Want ops e j) → prop k (valOf (entUpd e i v)) w') : LeavesE ops L prop e i w v w' :=
  ⟨h, fun k _ _ _ _ _ _ _ hu => hst k _ w w' hu hb⟩
theorem LeavesE.plain (hst : ∀ k val w w', prop k val w → Below w.heap.size w w' → prop k val w') (hb : Below w.heap.size w w') (h : L.all (fun p => !p.2.contains i) = true) : LeavesE ops L prop e i w v w' :=
  .below hst hb fun k kl nd hk hi => by
    have := List.all_eq_true.1 h _ (List.mem_of_getElem? hk)
    simp only [Bool.not_eq_true', List.contains_eq_mem, decide_eq_false_iff_not] at this
    exact absurd hi this
theorem EFacts.step (N : Nat) (F : EntForm3 ops N) (hcg : ∀ (k : Nat) (kl nd : List Nat), L[k]? = some (kl, nd) → ∀ (x y : Nat → Value) (w : World), (∀ j ∈ nd, x j = y j) → prop k x w → prop k y w)
    (hT : EFacts ops L prop pv e w) (hei : e i = none) (hw : ∀ j, Region.waitsFor .any ops i j = true → ∃ v, e j = some v)
    (hnew : Want ops e i → pv i v ∧ ∀ (k : Nat) (kl nd : List Nat), L[k]? = some (kl, nd) → i ∈ nd → i ∉ kl → (∀ j ∈ kl, e j = none) → (∀ j ∈ nd, j ≠ i → e j ≠ none ∧ Want ops e j) → prop k (valOf (entUpd e i v)) w')
    (hold : ∀ (k : Nat) (kl nd : List Nat), L[k]? = some (kl, nd) → i ∉ nd → i ∉ kl → (∀ j ∈ kl, e j = none) → (∀ j ∈ nd, e j ≠ none) → prop k (valOf e) w → prop k (valOf e) w') : EFacts ops L prop pv (entUpd e i v) w' := by
  have want : ∀ j, entUpd e i v j ≠ none → Want ops (entUpd e i v) j → Want ops e j := fun j hj h g b hg => by
    have := h g b hg
    by_cases hgi : g = i
    · subst hgi
      unfold guardOf at hg
      cases ho : ops[j]? with
      | none => rw [ho] at hg; cases hg
      | some o =>
        rw [ho] at hg
        obtain ⟨hwt, _⟩ := F.guards j o g b ho hg
        by_cases hjg : j = g
        · subst hjg
          obtain ⟨x, hx⟩ := hw j hwt
          rw [hei] at hx; cases hx
        · rw [entUpd_other e v hjg] at hj
          exact absurd hei (hT.order j g hj hwt)
    · rwa [entUpd_other e v hgi] at this
  refine ⟨fun k kl nd hk hkl hnd => ?_, fun k u hu hwn => ?_, fun j m hj hm => ?_⟩
  · have hik : i ∉ kl := fun h => by have := hkl i h; rw [entUpd_same] at this; cases this
    have hkl2 : ∀ j ∈ kl, e j = none := fun j hj => by
      have := hkl j hj
      by_cases h : j = i
      · rw [h]; exact hei
      · rwa [entUpd_other e v h] at this
    have hnd2 : ∀ j ∈ nd, j ≠ i → e j ≠ none ∧ Want ops e j := fun j hj hji => by
      have := hnd j hj
      have h1 := this.1
      rw [entUpd_other e v hji] at h1
      exact ⟨h1, want j this.1 this.2⟩
    by_cases hin : i ∈ nd
    · exact (hnew (want i (hnd i hin).1 (hnd i hin).2)).2 k kl nd hk hin hik hkl2 hnd2
    · have hne : ∀ j ∈ nd, j ≠ i := fun j hj e => hin (e ▸ hj)
      have h1 := hT.of k kl nd hk hkl2 (fun j hj => hnd2 j hj (hne j hj))
      have h2 := hold k kl nd hk hin hik hkl2 (fun j hj => (hnd2 j hj (hne j hj)).1) h1
      exact hcg k kl nd hk _ _ w' (fun j hj => by unfold valOf; rw [entUpd_other e v (hne j hj)]) h2
  · have hwn2 := want k (by rw [hu]; simp) hwn
    by_cases hk : k = i
    · subst hk
      rw [entUpd_same] at hu
      obtain rfl := Option.some.inj hu
      exact (hnew hwn2).1
    · rw [entUpd_other e v hk] at hu
      exact hT.pure k u hu hwn2
  · by_cases hmi : m = i
    · subst hmi; rw [entUpd_same]; simp
    rw [entUpd_other e v hmi]
    by_cases hji : j = i
    · subst hji
      obtain ⟨u, hu⟩ := hw m hm
      rw [hu]; simp
    · rw [entUpd_other e v hji] at hj
      exact hT.order j m hj hm
end
theorem wp_region_entE {P : Program} {id : Nat} {Q : Exit → Act → World → Prop} {a : Act} {W : World} {l : List Oper} (N : Nat) (L : List EKey) (prop : Nat → (Nat → Value) → World → Prop) (pv : Nat → Value → Prop)
    (hcg : ∀ (k : Nat) (kl nd : List Nat), L[k]? = some (kl, nd) → ∀ (x y : Nat → Value) (w : World), (∀ j ∈ nd, x j = y j) → prop k x w → prop k y w)
    (hm : P.follows .mixedOrders = true) (hB : entB3 l.toArray N = true) (hN : a.tmps.size = N) (h0 : ∀ (k : Nat) (kl : List Nat), L[k]? = some (kl, []) → prop k (fun _ => undef) W.drew)
    (hs : ∀ (i : Nat) (o : Oper), l[i]? = some o → ∀ (e : Ent) (w : World) (A : Act), EFacts l.toArray L prop pv e w → e i = none → Want l.toArray e i →
      (∀ s j, Region.waitsFor .any l.toArray i j = true → dstOf l.toArray j = some s → e j = some (A.eval (.tmp s)) ∧ (Want l.toArray e j → pv j (A.eval (.tmp s)))) → (∀ s, (List.range l.length).all (fun j => dstOf l.toArray j != some s || Region.waitsFor .any l.toArray j i) = true → A.eval (.tmp s) = a.eval (.tmp s)) →
      o.wp P A w (fun A' w' => ∃ v, A' = A.put o.dst v ∧ pv i v ∧ LeavesE l.toArray L prop e i w v w') Q)
    (hend : ∀ e w, EFacts l.toArray L prop pv e w → (∀ i, i < l.length → ∃ v, e i = some v) → Q .normal (fillTo l.toArray e l.length a) w) : (Code.region id l.toArray true).wp P Q a W := by
  have F := entForm3 hB
  refine wp_region_ent3 N (EFacts l.toArray L prop pv) hm hB hN ⟨fun k kl nd hk _ hnd => ?_, fun k u hu => (by cases hu), fun j i hj _ => absurd rfl hj⟩ ?_ ?_ hend
  · cases nd with
    | nil => exact h0 k kl hk
    | cons j nd => exact absurd rfl (hnd j (by simp)).1
  · intro i o ho e w A hT hei hwt hsee haway hguard
    have ho2 : l.toArray[i]? = some o := by rw [List.getElem?_toArray]; exact ho
    have haway2 : ∀ s, (List.range l.length).all (fun j => dstOf l.toArray j != some s || Region.waitsFor .any l.toArray j i) = true → A.eval (.tmp s) = a.eval (.tmp s) := fun s hall => haway s fun j hj => by
      have hlt : j < l.length := by have := dstOf_lt hj; simpa using this
      have h1 := List.all_eq_true.1 hall j (List.mem_range.2 hlt)
      rw [hj] at h1
      have h2 : Region.waitsFor .any l.toArray j i = true := by simpa using h1
      cases hx : e j with
      | none => rfl
      | some u => exact absurd hei (hT.order j i (by rw [hx]; simp) h2)
    have hwn : Want l.toArray e i := fun g b hg => by
      unfold guardOf at hg
      rw [ho2] at hg
      exact hguard g b hg
    refine Oper.wp_mono (fun A' w' h => ?_) (hs i o ho e w A hT hei hwn (fun s j hwj hj => ⟨hsee s j hwj hj, hT.pure j _ (hsee s j hwj hj)⟩) haway2)
    obtain ⟨v, rfl, hp, hl⟩ := h
    exact ⟨v, rfl, hT.step N F hcg hei hwt (fun _ => ⟨hp, hl.new⟩) hl.old⟩
  · intro i o g b ho hg e w u hT hei hwt hgu hne
    have ho2 : l.toArray[i]? = some o := by rw [List.getElem?_toArray]; exact ho
    refine hT.step N F hcg hei hwt (fun hwn => ?_) (fun k _ _ _ _ _ _ _ hu => hu)
    have := hwn g b (by unfold guardOf; rw [ho2]; exact hg)
    rw [hgu] at this
    exact absurd (Option.some.inj this) hne
/-- Without guards every operation is wanted. -/
theorem want_free {ops : Array Oper} {e : Ent} {j : Nat} (h : (guardOf ops j == none) = true) : Want ops e j := fun g b hg => by
  rw [hg] at h; simp at h
theorem EFacts.fact {ops : Array Oper} {L : List EKey} {prop : Nat → (Nat → Value) → World → Prop} {pv : Nat → Value → Prop} {e : Ent} {w : World} (hT : EFacts ops L prop pv e w) (k : Nat) {kl nd : List Nat} (hk : L[k]? = some (kl, nd)) (h1 : ∀ j ∈ kl, e j = none) (h2 : ∀ j ∈ nd, e j ≠ none) (h3 : nd.all (fun j => guardOf ops j == none) = true) : prop k (valOf e) w :=
  hT.of k kl nd hk h1 fun j hj => ⟨h2 j hj, want_free (List.all_eq_true.1 h3 j hj)⟩
theorem EFacts.none_of {ops : Array Oper} {L : List EKey} {prop : Nat → (Nat → Value) → World → Prop} {pv : Nat → Value → Prop} {e : Ent} {w : World} (hT : EFacts ops L prop pv e w) {i j : Nat} (hei : e i = none) (h : Region.waitsFor .any ops j i = true) : e j = none := by
  cases hx : e j with
  | none => rfl
  | some u => exact absurd hei (hT.order j i (by rw [hx]; simp) h)
/-- Only these facts speak of an operation's value. -/
theorem only_fact {L : List EKey} {i : Nat} (ks : List Nat) (h : (List.range L.length).all (fun k => match L[k]? with | some p => !p.2.contains i || ks.contains k | none => true) = true) {k : Nat} {kl nd : List Nat} (hk : L[k]? = some (kl, nd)) (hi : i ∈ nd) : k ∈ ks := by
  have h1 := List.all_eq_true.1 h k (List.mem_range.2 (List.getElem?_eq_some_iff.1 hk).1)
  rw [hk] at h1
  simpa [hi] using h1
end Go.Proofs.YtfkejnnbfneieaaGreatDoor

/- Runs of single operations that make memory or write it, of any types. Of no seat's types. -/
namespace Go.Proofs.YtfkejnnbfneieaaGreatDoor
open Go.RowKit

section
variable {P : Program} (d : Option Tmp) (t : TypeId) (pos : String) (af : Array Edge) (g : Option (Nat × Bool)) (A : Act) (w : World)
theorem rStore (T : TypeId) (x y : Operand) (b : Nat) (T' : TypeId) (z c : Array Value) (hx : A.eval x = .pointer (some ⟨b, 0, none⟩)) (hy : A.eval y = .agg c) (hw : Whole w b T' z) (hi : (P.info? T).map (·.size) = some c.size) (hs : z.size = c.size) (h1 : c.all (·.oneCell') = true) :
    ∃ w'', (execOp A.eval ⟨d, .store T x y, t, pos, af, g⟩).run P w = .ok .skip w'' ∧ w''.heap.size = w.heap.size ∧ w.grownBy w'' (some b) ∧ Whole w'' b T' c := by
  refine ⟨_, ?_, ?_, ?_, setRow_heap w b z c T' (0, 0) hw⟩
  · unfold execOp
    simp only [hx, hy, Instr.storeAt, Instr.sureAddr, Sem.run_bind, Sem.run_pure, Result.andThen_ok, run_storeVar_row w b T' T z c hw hi hs h1]
  · simp [World.setRow]
  · refine ⟨rfl, rfl, rfl, by simp [World.setRow], fun k _ hne => ?_⟩
    simp only [World.setRow]
    rw [Array.getElem?_modify, if_neg (fun e => hne (by rw [e]))]
end
end Go.Proofs.YtfkejnnbfneieaaGreatDoor

/- x := T{..} in a drawn region: a block that is made (ia) and then filled (is); all else makes at most new memory. Of no seat's types. -/
namespace Go.Proofs.YtfkejnnbfneieaaGreatDoor
open Go.RowKit

def nsK (ia is : Nat) : List EKey := [([], []), ([is], [ia]), ([], [ia, is])]
def nsP (W : World) (te : TypeId) (z c : Array Value) (ia : Nat) : Nat → (Nat → Value) → World → Prop
  | 0, _, w => Below W.heap.size W w
  | 1, x, w => ∃ g, x ia = .pointer (some ⟨g, 0, none⟩) ∧ W.heap.size ≤ g ∧ Whole w g te z
  | 2, x, w => ∃ g, x ia = .pointer (some ⟨g, 0, none⟩) ∧ W.heap.size ≤ g ∧ Whole w g te c
  | _, _, _ => True
section
variable {W w w' : World} {te : TypeId} {z c : Array Value} {ia is : Nat} {e : Ent} {ops : Array Oper} {v : Value}
theorem nsP_below : ∀ j x w w', nsP W te z c ia j x w → Below w.heap.size w w' → nsP W te z c ia j x w'
  | 0, _, _, _, h, hb => below_step h hb
  | 1, _, _, _, h, hb => by obtain ⟨g, h1, h2, h3⟩ := h; exact ⟨g, h1, h2, whole_belowM h3 hb⟩
  | 2, _, _, _, h, hb => by obtain ⟨g, h1, h2, h3⟩ := h; exact ⟨g, h1, h2, whole_belowM h3 hb⟩
  | _ + 3, _, _, _, _, _ => trivial
theorem nsP_cg (j : Nat) (kl nd : List Nat) (hk : (nsK ia is)[j]? = some (kl, nd)) (x y : Nat → Value) (w : World) (h : ∀ i ∈ nd, x i = y i) (h1 : nsP W te z c ia j x w) : nsP W te z c ia j y w := by
  have hj : j < 3 := (List.getElem?_eq_some_iff.1 hk).1
  have hj : j = 0 ∨ j = 1 ∨ j = 2 := by omega
  rcases hj with rfl | rfl | rfl <;> cases hk
  · exact h1
  · have e2 := h ia (by simp); simpa only [nsP, e2] using h1
  · have e2 := h ia (by simp); simpa only [nsP, e2] using h1
theorem nsP_zero (j : Nat) (kl : List Nat) (hk : (nsK ia is)[j]? = some (kl, [])) : nsP W te z c ia j (fun _ => undef) W.drew := by
  have hj : j < 3 := (List.getElem?_eq_some_iff.1 hk).1
  have hj : j = 0 ∨ j = 1 ∨ j = 2 := by omega
  rcases hj with rfl | rfl | rfl <;> cases hk
  exact (Below.refl _ _).drew
theorem upd_valN {e : Ent} {i : Nat} {v : Value} : valOf (entUpd e i v) i = v := valOf_some (entUpd_same ..)
theorem ns_new_alloc (hne : ia ≠ is) (hB : Below W.heap.size W w) (hs : e is = none) : ∀ (j : Nat) (kl nd : List Nat), (nsK ia is)[j]? = some (kl, nd) → ia ∈ nd → ia ∉ kl → (∀ i ∈ kl, e i = none) → (∀ i ∈ nd, i ≠ ia → e i ≠ none ∧ Want ops e i) → nsP W te z c ia j (valOf (entUpd e ia (.pointer (some ⟨w.heap.size, 0, none⟩)))) (w.alloc (.cells z te)) := by
  intro j kl nd hk hi _ _ hd
  have hj : j < 3 := (List.getElem?_eq_some_iff.1 hk).1
  have hj : j = 0 ∨ j = 1 ∨ j = 2 := by omega
  rcases hj with rfl | rfl | rfl <;> cases hk
  · cases hi
  · exact ⟨w.heap.size, upd_valN, hB.size, Whole.new _ _ _⟩
  · exact absurd hs (hd is (by simp) (fun h => hne h.symm)).1
theorem ns_leaves_store (hne : ia ≠ is) (hB : Below W.heap.size W w) {g : Nat} {vp : Value} (ha : e ia = some vp) (hv : vp = .pointer (some ⟨g, 0, none⟩)) (hg0 : W.heap.size ≤ g) (hg : w.grownBy w' (some g)) (hw : Whole w' g te c) : LeavesE ops (nsK ia is) (nsP W te z c ia) e is w v w' := by
  refine ⟨fun j kl nd hk hi _ _ hd => ?_, fun j kl nd hk hi hi2 hkl hnd hu => ?_⟩
  · have hj : j < 3 := (List.getElem?_eq_some_iff.1 hk).1
    have hj : j = 0 ∨ j = 1 ∨ j = 2 := by omega
    rcases hj with rfl | rfl | rfl <;> cases hk
    · cases hi
    · exact absurd (List.mem_singleton.1 hi).symm hne
    · refine ⟨g, ?_, hg0, hw⟩
      unfold valOf
      rw [entUpd_other e v hne, ha, hv]; rfl
  · have hj : j < 3 := (List.getElem?_eq_some_iff.1 hk).1
    have hj : j = 0 ∨ j = 1 ∨ j = 2 := by omega
    rcases hj with rfl | rfl | rfl <;> cases hk
    · exact hB.grown hg hB.size (fun y e2 => by cases e2; exact hg0)
    · exact absurd (by simp) hi2
    · exact absurd (by simp) hi
end
end Go.Proofs.YtfkejnnbfneieaaGreatDoor
