/- Runs of single operations, of any types. Of no seat's types. -/
import Derived.Test.YtknphmkblcbabaaGreatDoorMono
import Derived.Deep.MidRow
namespace Go.Proofs.YtknphmkblcbabaaGreatDoor
open Go.RowKit

section
variable {P : Program} (d : Option Tmp) (t : TypeId) (pos : String) (af : Array Edge) (g : Option (Nat × Bool)) (A : Act) (w : World)
theorem rMove (x : Operand) (v : Value) (hx : A.eval x = v) : (execOp A.eval ⟨d, .move x, t, pos, af, g⟩).run P w = .ok (.value v) w := by
  subst hx; rfl
theorem rAssign (x : Operand) (v : Value) (hx : A.eval x = v) : (execOp A.eval ⟨d, .assign x, t, pos, af, g⟩).run P w = .ok (.value v) w := by
  subst hx; rfl
theorem rPick (x y z : Operand) (b : Bool) (v : Value) (hx : A.eval x = .bool b) (hv : (if b then A.eval y else A.eval z) = v) : (execOp A.eval ⟨d, .pick x y z, t, pos, af, g⟩).run P w = .ok (.value v) w := by
  subst hv
  unfold execOp
  simp only [hx]
  go_simp
theorem rNot (T : TypeId) (x : Operand) (b : Bool) (hx : A.eval x = .bool b) : (execOp A.eval ⟨d, .unOp .not T x, t, pos, af, g⟩).run P w = .ok (.value (.bool !b)) w := by
  unfold execOp
  simp only [hx]
  go_simp
theorem rEqlInt (T U : TypeId) (x y : Operand) (a b : Int) (hx : A.eval x = .int .i64 a) (hy : A.eval y = .int .i64 b) : (execOp A.eval ⟨d, .binOp .eql T x y U, t, pos, af, g⟩).run P w = .ok (.value (.bool (a == b))) w := by
  unfold execOp
  simp only [hx, hy]
  go_simp
theorem rLssInt (T U : TypeId) (x y : Operand) (a b : Int) (hx : A.eval x = .int .i64 a) (hy : A.eval y = .int .i64 b) : (execOp A.eval ⟨d, .binOp .lss T x y U, t, pos, af, g⟩).run P w = .ok (.value (.bool (decide (a < b)))) w := by
  unfold execOp
  simp only [hx, hy]
  go_simp
theorem rGtrInt (T U : TypeId) (x y : Operand) (a b : Int) (hx : A.eval x = .int .i64 a) (hy : A.eval y = .int .i64 b) : (execOp A.eval ⟨d, .binOp .gtr T x y U, t, pos, af, g⟩).run P w = .ok (.value (.bool (decide (b < a)))) w := by
  unfold execOp
  simp only [hx, hy]
  go_simp
theorem rEqlStr (T U : TypeId) (x y : Operand) (a b : ByteArray) (hx : A.eval x = .string a) (hy : A.eval y = .string b) : (execOp A.eval ⟨d, .binOp .eql T x y U, t, pos, af, g⟩).run P w = .ok (.value (.bool (a.toList == b.toList))) w := by
  unfold execOp
  simp only [hx, hy]
  go_simp
theorem rEqlStrT (T U : TypeId) (x y : Operand) (a : ByteArray) (hx : A.eval x = .string a) (hy : A.eval y = .string a) : (execOp A.eval ⟨d, .binOp .eql T x y U, t, pos, af, g⟩).run P w = .ok (.value (.bool true)) w := by
  rw [rEqlStr d t pos af g A w T U x y a a hx hy]
  simp
theorem rAddInt (T U : TypeId) (x y : Operand) (a b c : Int) (hx : A.eval x = .int .i64 a) (hy : A.eval y = .int .i64 b) (hc : IntKind.i64.wrap (a + b) = c) : (execOp A.eval ⟨d, .binOp .add T x y U, t, pos, af, g⟩).run P w = .ok (.value (.int .i64 c)) w := by
  subst hc
  unfold execOp
  simp only [hx, hy]
  go_simp
theorem rSubInt (T U : TypeId) (x y : Operand) (a b c : Int) (hx : A.eval x = .int .i64 a) (hy : A.eval y = .int .i64 b) (hc : IntKind.i64.wrap (a - b) = c) : (execOp A.eval ⟨d, .binOp .sub T x y U, t, pos, af, g⟩).run P w = .ok (.value (.int .i64 c)) w := by
  subst hc
  unfold execOp
  simp only [hx, hy]
  go_simp
theorem rField (S : TypeId) (x : Operand) (k : Nat) (b o q : Nat) (fs : Array Field) (f : Field) (hS : P.underlying S = some (.struct fs)) (hf : fs[k]? = some f) (hz0 : (P.cellsOf f.type == 0) = false) (ho : o + f.offset = q) (hi : (P.info? f.type).isSome = true) (hx : A.eval x = .pointer (some ⟨b, o, none⟩)) :
    (execOp A.eval ⟨d, .fieldAddr S x k, t, pos, af, g⟩).run P w = .ok (.value (.pointer (some ⟨b, q, none⟩))) w := by
  subst ho
  obtain ⟨i, hi⟩ := Option.isSome_iff_exists.1 hi
  have hz : P.cellsOf f.type ≠ 0 := by simpa using hz0
  have hz' : i.size ≠ 0 := by
    intro h
    apply hz
    unfold Program.cellsOf
    rw [hi]
    exact h
  have e : (⟨b, o, none⟩ : Addr).add f.offset = ⟨b, o + f.offset, none⟩ := Addr.add_mid _ _ _
  unfold execOp
  simp only [hx]
  simp [Instr.fieldAt, fieldPlace, Instr.sureAddr, Sem.run_bind, run_underlying hS, hf, sizeOf, typeInfo, hi, hz', e]
theorem rLoad (T : TypeId) (x : Operand) (b o : Nat) (cs : List Value) (dd : TypeDesc) (hc : w.rangeAt b o cs) (hu : P.underlying T = some dd) (hd : dd.isRow = true) (hi : (P.info? T).map (·.size) = some cs.length) (hx : A.eval x = .pointer (some ⟨b, o, none⟩)) :
    (execOp A.eval ⟨d, .load T x, t, pos, af, g⟩).run P w = .ok (.value (.agg cs.toArray)) w := by
  unfold execOp
  simp only [hx, Instr.loadAt, Instr.sureAddr, Sem.run_bind, Sem.run_pure, Result.andThen_ok, run_loadVar_mid w b o T cs dd hc hu hd hi]
theorem rLoad1 (T : TypeId) (x : Operand) (p : Addr) (v : Value) (dd : TypeDesc) (hu : P.underlying T = some dd) (hd : dd.isRow = false) (hc : w.cell? p = some v) (hx : A.eval x = .pointer (some p)) :
    (execOp A.eval ⟨d, .load T x, t, pos, af, g⟩).run P w = .ok (.value v) w := by
  have hagg : (isAgg T).run P w = .ok false w := by
    unfold isAgg
    rw [Sem.run_bind, run_underlying hu w]
    cases dd <;> simp_all
  unfold execOp
  simp only [hx, Instr.loadAt, Instr.sureAddr, Sem.run_bind, Sem.run_pure, Result.andThen_ok, loadVar, hagg]
  simp [hc]
theorem rIndex (T e : TypeId) (sz : Nat) (x y : Operand) (b o n c j : Nat) (z : Int) (hT : P.underlying T = some (.slice e)) (hs : (P.info? e).map (·.size) = some sz) (hz : z = j) (hj : j < n) (hx : A.eval x = .slice (some ⟨b, o, none⟩) n c) (hy : A.eval y = .int .i64 z) :
    (execOp A.eval ⟨d, .indexAddr T x y, t, pos, af, g⟩).run P w = .ok (.value (.pointer (some ⟨b, o + j * sz, none⟩))) w := by
  subst hz
  obtain ⟨i, hi, hi2⟩ := Option.map_eq_some_iff.1 hs
  have he : P.elem T = e := by unfold Program.elem; rw [hT]
  have h0 : (0 : Int) ≤ j := by omega
  have h1 : (j : Int) < n := by omega
  unfold execOp
  simp only [hx, hy, Sem.run_bind]
  rw [run_indexAt_slice w T _ _ _ _ _ (by rw [he]; exact hT), he, if_pos ⟨h0, h1⟩]
  simp [sizeOf, typeInfo, hi, hi2, Sem.run_bind, Addr.add_mid]
theorem rLen (T : TypeId) (x : Operand) (ao : Option Addr) (n c : Nat) (e : TypeId) (hT : P.underlying T = some (.slice e)) (hx : A.eval x = .slice ao n c) :
    (execOp A.eval ⟨d, .call { callee := .builtin .len, args := #[x], argTypes := #[T] }, t, pos, af, g⟩).run P w = .ok (.value (.int .i64 n)) w := by
  have he : P.elem T = e := by unfold Program.elem; rw [hT]
  unfold execOp
  have := run_len_slice (P := P) (w := w) T t ao n c (by rw [he]; exact hT)
  simp [resolve, hx, Sem.run_bind, invoke, builtin, this, goInt]
theorem rGeqStr (T U : TypeId) (x y : Operand) (a b : ByteArray) (hx : A.eval x = .string a) (hy : A.eval y = .string b) : (execOp A.eval ⟨d, .binOp .geq T x y U, t, pos, af, g⟩).run P w = .ok (.value (.bool (!Op.bytesLess a.toList b.toList))) w := by
  unfold execOp
  simp only [hx, hy]
  go_simp
theorem rGeqIntF (T U : TypeId) (x y : Operand) (a b : Int) (h : a < b) (hx : A.eval x = .int .i64 a) (hy : A.eval y = .int .i64 b) : (execOp A.eval ⟨d, .binOp .geq T x y U, t, pos, af, g⟩).run P w = .ok (.value (.bool false)) w := by
  have e : decide (b ≤ a) = false := decide_eq_false (by omega)
  unfold execOp
  simp only [hx, hy]
  go_simp
  try omega
end
end Go.Proofs.YtknphmkblcbabaaGreatDoor
