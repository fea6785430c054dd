/- Reading a struct under a guard that is met. -/
import Derived.Test.YtfkejnnbfneieaaGreatDoorMemCopy
import Derived.Test.YtfkejnnbfneieaaGreatDoorMonoG
import Derived.Test.YtfkejnnbfneieaaGreatDoorEvtValid
import Derived.Test.YtfkejnnbfneieaaGreatDoorRunW
namespace Go.Proofs.YtfkejnnbfneieaaGreatDoor
open Go.RowKit

theorem wpList_load_yes {P : Program} {ops : Array Oper} {rest : List Oper} {op : Oper} {a : Act} {w : World} {Q : Exit → Act → World → Prop} (hw : Region.wanted op (yielded ops a.tmps) = true) (ty : TypeId) (x : Operand) (ho : op.op = .load ty x)
    (b o : Nat) (hx : a.eval x = .pointer (some ⟨b, o, none⟩)) (cs : List Value) (d : TypeDesc) (hc : w.rangeAt b o cs)
    (hu : P.underlying ty = some d) (hd : d.isRow = true) (hi : (P.info? ty).map (·.size) = some cs.length)
    (h : wpList P ops Q rest (a.put op.dst (.agg cs.toArray)) w) : wpList P ops Q (op :: rest) a w :=
  wpList_step fun _ hK => by
    rw [if_pos hw]
    exact wp_load_mid ty x ho b o hx cs d hc hu hd hi (hK _ _ h)
theorem wpList_run_yes {P : Program} {ops : Array Oper} {rest : List Oper} {op : Oper} {a : Act} {w w' : World} {v : Value} {Q : Exit → Act → World → Prop} (hw : Region.wanted op (yielded ops a.tmps) = true) (hr : (execOp a.eval op).run P w = .ok (.value v) w')
    (h : wpList P ops Q rest (a.put op.dst v) w') : wpList P ops Q (op :: rest) a w :=
  wpList_step fun _ hK => by
    rw [if_pos hw]
    exact wp_of_runL hr (hK _ _ h)
end Go.Proofs.YtfkejnnbfneieaaGreatDoor

/- Comparing events: runs of single operations. -/
namespace Go.Proofs.YtfkejnnbfneieaaGreatDoor
open Go.RowKit
open Evt

section
variable (d : Option Tmp) (t : TypeId) (pos : String) (af : Array Edge) (g : Option (Nat × Bool)) (A : Act) (w : World) (x y : Operand)
theorem run_eqEv (a b : Ev) (ha : Sz a) (hb : Sz b) (hx : A.eval x = .agg (evC a).toArray) (hy : A.eval y = .agg (evC b).toArray) :
    (execOp A.eval ⟨d, .binOp .eql 50 x y 50, t, pos, af, g⟩).run Tryz.prog w = .ok (.value (.bool (evEq a b))) w := by
  have h := ev_eql ha hb w
  have hg := ev_guard
  unfold execOp
  simp only [hx, hy]
  simp [eqGuard, Sem.run_bind, h, hg]
theorem run_neqEv (a b : Ev) (ha : Sz a) (hb : Sz b) (hx : A.eval x = .agg (evC a).toArray) (hy : A.eval y = .agg (evC b).toArray) :
    (execOp A.eval ⟨d, .binOp .neq 50 x y 50, t, pos, af, g⟩).run Tryz.prog w = .ok (.value (.bool (!evEq a b))) w := by
  have h : (binOp .neq 50 (.agg (evC a).toArray) (.agg (evC b).toArray)).run Tryz.prog w = .ok (.bool (!evEq a b)) w := by
    unfold binOp
    simp [run_ev_eq ha hb]
  have hg := ev_guard
  unfold execOp
  simp only [hx, hy]
  simp [eqGuard, Sem.run_bind, h, hg]
end
theorem evEq_reflG (e : Ev) : evEq e e = true := evEq_iff.2 rfl
theorem run_eqlEvG (d : Option Tmp) (t : TypeId) (pos : String) (af : Array Edge) (g : Option (Nat × Bool)) (A : Act) (w : World) (x y : Operand) (a : Ev) (ha : Sz a) (hx : A.eval x = .agg (evC a).toArray) (hy : A.eval y = .agg (evC a).toArray) :
    (execOp A.eval ⟨d, .binOp .eql 50 x y 50, t, pos, af, g⟩).run Tryz.prog w = .ok (.value (.bool true)) w := by
  rw [run_eqEv d t pos af g A w x y a a ha ha hx hy, evEq_reflG]
theorem run_neqEvG (d : Option Tmp) (t : TypeId) (pos : String) (af : Array Edge) (g : Option (Nat × Bool)) (A : Act) (w : World) (x y : Operand) (a : Ev) (ha : Sz a) (hx : A.eval x = .agg (evC a).toArray) (hy : A.eval y = .agg (evC a).toArray) :
    (execOp A.eval ⟨d, .binOp .neq 50 x y 50, t, pos, af, g⟩).run Tryz.prog w = .ok (.value (.bool false)) w := by
  rw [run_neqEv d t pos af g A w x y a a ha ha hx hy, evEq_reflG]; rfl
end Go.Proofs.YtfkejnnbfneieaaGreatDoor
