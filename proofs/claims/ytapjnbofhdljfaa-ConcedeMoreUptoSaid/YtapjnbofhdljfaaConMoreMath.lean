/- ConcedeMore, as values; operations that its walk meets in a drawn order. -/
import Derived.Test.YtapjnbofhdljfaaConHead
import Derived.Test.YtapjnbofhdljfaaMemMore
namespace Go.Proofs.Ytapjnbofhdljfaa
open Go.RowKit
open Cat

namespace Con
theorem exempt_more (l m : List Cn) (part rule : ByteArray) (day : Int) : exempt (l ++ m) part rule day = (exempt l part rule day || exempt m part rule day) := by
  unfold exempt; exact List.any_append
theorem permitted_more (c : List Knd) (a b : List Sb) (s : List Prt) (part : ByteArray) (day : Int) : permitted c (a ++ b) s part day = (permitted c a s part day || permitted c b s part day) := by
  unfold permitted
  cases find s part with
  | none => rfl
  | some p =>
    dsimp only
    by_cases hi : p.into = empty
    · rw [if_pos hi, if_pos hi, if_pos hi]; rfl
    · rw [if_neg hi, if_neg hi, if_neg hi]
      cases find s p.into with
      | none => rfl
      | some host =>
        dsimp only
        rw [List.any_append]
        cases normal c host.kind p.slot p.kind <;> simp
theorem exempt_swap (l m : List Cn) (part rule : ByteArray) (day : Int) : exempt (m ++ l) part rule day = (exempt l part rule day || exempt m part rule day) := by rw [exempt_more, Bool.or_comm]
theorem permitted_swap (c : List Knd) (a b : List Sb) (s : List Prt) (part : ByteArray) (day : Int) : permitted c (b ++ a) s part day = (permitted c a s part day || permitted c b s part day) := by rw [permitted_more, Bool.or_comm]
end Con
theorem plainSub : ElPlain ElSub := fun _ _ cs a h => ⟨h, by
  have h : cs = _ := h
  subst h
  intro u hu
  simp at hu
  rcases hu with rfl | rfl | rfl | rfl | rfl <;> rfl⟩
theorem plainCon : ElPlain ElCon := fun _ _ cs a h => ⟨h, by
  have h : cs = _ := h
  subst h
  intro u hu
  simp at hu
  rcases hu with rfl | rfl | rfl <;> rfl⟩
theorem lenSub : ∀ (W : World) (cs : List Value) (a : Sb), ElSub W cs a → cs.length = 5 := fun _ _ _ h => by
  rw [show _ = _ from h]; rfl
theorem lenCon : ∀ (W : World) (cs : List Value) (a : Cn), ElCon W cs a → cs.length = 3 := fun _ _ _ h => by
  rw [show _ = _ from h]; rfl
theorem wp_of_run {P : Program} {o : Oper} {a : Act} {w w' : World} {v : Value} {K : Act → World → Prop} {Q : Exit → Act → World → Prop} (hr : (execOp a.eval o).run P w = .ok (.value v) w') (h : K (a.put o.dst v) w') : o.wp P a w K Q := by
  unfold Oper.wp; rw [hr]; exact h
section
variable (d : Option Tmp) (t : TypeId) (pos : String) (af : Array Edge) (g : Option (Nat × Bool)) (A : Act) (w : World)
theorem run_move (x : Tmp) (v : Value) (hx : A.eval (.tmp x) = v) : (execOp A.eval ⟨d, .move (.tmp x), t, pos, af, g⟩).run Try.prog w = .ok (.value v) w := by
  subst hx; rfl
theorem run_assign (x : Tmp) (v : Value) (hx : A.eval (.tmp x) = v) : (execOp A.eval ⟨d, .assign (.tmp x), t, pos, af, g⟩).run Try.prog w = .ok (.value v) w := by
  subst hx; rfl
theorem run_not (x : Tmp) (b : Bool) (hx : A.eval (.tmp x) = .bool b) : (execOp A.eval ⟨d, .unOp .not 4 (.tmp x), t, pos, af, g⟩).run Try.prog w = .ok (.value (.bool !b)) w := by
  unfold execOp
  simp only [hx]
  go_simp
theorem run_same (x y : Tmp) (b c : Bool) (hx : A.eval (.tmp x) = .bool b) (hy : A.eval (.tmp y) = .bool c) : (execOp A.eval ⟨d, .binOp .eql 4 (.tmp x) (.tmp y) 4, t, pos, af, g⟩).run Try.prog w = .ok (.value (.bool (b == c))) w := by
  unfold execOp
  simp only [hx, hy]
  go_simp
theorem run_or (x y : Tmp) (b : Bool) (hx : A.eval (.tmp x) = .bool b) : (execOp A.eval ⟨d, .pick (.tmp x) (.const (.bool true)) (.tmp y), t, pos, af, g⟩).run Try.prog w = .ok (.value (bif b then .bool true else A.eval (.tmp y))) w := by
  unfold execOp
  simp only [hx]
  cases b <;> go_simp
theorem run_and (x y : Tmp) (b : Bool) (hx : A.eval (.tmp x) = .bool b) : (execOp A.eval ⟨d, .pick (.tmp x) (.tmp y) (.const (.bool false)), t, pos, af, g⟩).run Try.prog w = .ok (.value (bif b then A.eval (.tmp y) else .bool false)) w := by
  unfold execOp
  simp only [hx]
  cases b <;> go_simp
theorem run_len_str (x : Tmp) (s : ByteArray) (hx : A.eval (.tmp x) = .string s) : (execOp A.eval ⟨d, .call { callee := .builtin .len, args := #[.tmp x], argTypes := #[9] }, t, pos, af, g⟩).run Try.prog w = .ok (.value (.int .i64 s.size)) w := by
  unfold execOp
  simp only [resolve, invoke, builtin, Sem.run_bind, Sem.run_pure, Result.andThen_ok, List.map_toArray, List.map_cons, List.map_nil, hx]
  go_simp
theorem run_add_int (x y : Tmp) (a b : Nat) (h : a + b ≤ 4294967296) (hx : A.eval (.tmp x) = .int .i64 a) (hy : A.eval (.tmp y) = .int .i64 b) : (execOp A.eval ⟨d, .binOp .add 3 (.tmp x) (.tmp y) 3, t, pos, af, g⟩).run Try.prog w = .ok (.value (.int .i64 ((a + b : Nat) : Int))) w := by
  have h2 : ((a + b : Nat) : Int) = IntKind.i64.wrap ((a : Int) + b) := by rw [IntKind.wrap_i64]; omega
  rw [h2]
  unfold execOp
  simp only [hx, hy]
  go_simp
theorem run_gtr_int (x : Tmp) (a b : Int) (hx : A.eval (.tmp x) = .int .i64 a) : ∃ q, (execOp A.eval ⟨d, .binOp .gtr 3 (.tmp x) (.const (.int .i64 b)) 3, t, pos, af, g⟩).run Try.prog w = .ok (.value (.bool q)) w := by
  refine ⟨decide (b < a), ?_⟩
  unfold execOp
  simp only [hx]
  go_simp
theorem run_load_cat (x : Tmp) (b : Nat) (v : Value) (hx : A.eval (.tmp x) = .pointer (some ⟨b, 0, none⟩)) (hc : w.cell? ⟨b, 0, none⟩ = some v) : (execOp A.eval ⟨d, .load 24 (.tmp x), t, pos, af, g⟩).run Try.prog w = .ok (.value (.agg #[v])) w := by
  unfold execOp
  simp only [hx]
  go_simp
theorem run_load_state (x : Tmp) (b : Nat) (v : Value) (hx : A.eval (.tmp x) = .pointer (some ⟨b, 0, none⟩)) (hc : w.cell? ⟨b, 0, none⟩ = some v) : (execOp A.eval ⟨d, .load 28 (.tmp x), t, pos, af, g⟩).run Try.prog w = .ok (.value (.agg #[v])) w := by
  unfold execOp
  simp only [hx]
  go_simp
theorem wp_of_callN {K : Act → World → Prop} {Q : Exit → Act → World → Prop} (f : FuncId) (ats : Array TypeId) (xs : List Operand) (vs : List Value) (hx : xs.map A.eval = vs)
    (hcf : (callFunc f vs.toArray).run Try.prog w = .ok (.enter f vs.toArray) w) (h : Calls Try.prog f vs.toArray w fun e w' => ∃ v, e = .returned v ∧ K (A.put d v) w') : Oper.wp Try.prog ⟨d, .call { callee := .value (.func f), args := xs.toArray, argTypes := ats }, t, pos, af, g⟩ A w K Q := by
  have e : (execOp A.eval ⟨d, .call { callee := .value (.func f), args := xs.toArray, argTypes := ats }, t, pos, af, g⟩).run Try.prog w = .ok (.enter f vs.toArray) w := by
    have e0 : execOp A.eval ⟨d, .call { callee := .value (.func f), args := xs.toArray, argTypes := ats }, t, pos, af, g⟩ = callFunc f (#[] ++ (xs.toArray.map A.eval) ++ #[]) := rfl
    have e1 : (#[] ++ (xs.toArray.map A.eval) ++ #[] : Array Value) = vs.toArray := by rw [← hx]; simp
    rw [e0, e1]
    exact hcf
  unfold Oper.wp
  rw [e]
  refine h.mono fun e' w' he => ?_
  obtain ⟨v, rfl, hv⟩ := he
  exact hv
end

end Go.Proofs.Ytapjnbofhdljfaa
