/- A region that draws its order, of operations without guards that make at most new memory (one predicate for each value, kept by Below); runs of single operations. Of no seat's types. -/
import Derived.Test.YtfkejnnbfneieaaGreatDoorEntGuard
import Derived.Test.YtfkejnnbfneieaaGreatDoorTwo
namespace Go.Proofs.YtfkejnnbfneieaaGreatDoor
open Go.RowKit

theorem wp_region_monoL {P : Program} {id : Nat} {Q : Exit → Act → World → Prop} {a : Act} {W : World} {l : List Oper} (N : Nat) (pv : Nat → Value → World → Prop)
    (hst : ∀ k u w w', pv k u w → Below w.heap.size w w' → pv k u w')
    (hm : P.follows .mixedOrders = true) (hB : entB l.toArray N = true) (hN : a.tmps.size = N)
    (hs : ∀ (i : Nat) (o : Oper), l[i]? = some o → ∀ (w : World) (A : Act), Below W.heap.size W w →
      (∀ s ∈ o.looksAt l.toArray, ∀ j, dstOf l.toArray j = some s → pv j (A.eval (.tmp s)) w) → (∀ s, (List.range l.length).all (fun j => dstOf l.toArray j != some s) = true → A.eval (.tmp s) = a.eval (.tmp s)) →
      o.wp P A w (fun A' w' => ∃ v, A' = A.put o.dst v ∧ Below w.heap.size w w' ∧ pv i v w') Q)
    (hend : ∀ e w, Below W.heap.size W w → (∀ i, i < l.length → ∃ v, e i = some v ∧ pv i v w) → Q .normal (fillTo l.toArray e l.length a) w) : (Code.region id l.toArray true).wp P Q a W := by
  refine wp_region_ent N (fun e w => Below W.heap.size W w ∧ ∀ k u, e k = some u → pv k u w) hm hB hN ⟨(Below.refl _ _).drew, fun k u h => by cases h⟩ ?_ ?_
  · intro i o ho e w A hT hei hwt hsee haway
    refine Oper.wp_mono (fun A' w' h => ?_) (hs i o ho w A hT.1 (fun s hs j hj => hT.2 j _ (hsee s hs j hj)) haway)
    obtain ⟨v, rfl, hb, hp⟩ := h
    refine ⟨v, rfl, below_step hT.1 hb, fun k u hu => ?_⟩
    by_cases hk : k = i
    · subst hk
      rw [entUpd_same] at hu
      obtain rfl := Option.some.inj hu
      exact hp
    · rw [entUpd_other e v hk] at hu
      exact hst k u w w' (hT.2 k u hu) hb
  · intro e w hT hall
    exact hend e w hT.1 fun i hi => by
      obtain ⟨v, hv⟩ := hall i hi
      exact ⟨v, hv, hT.2 i v hv⟩

theorem wp_of_runL {P : Program} {o : Oper} {a : Act} {w w' : World} {v : Value} {K : Act → World → Prop} {Q : Exit → Act → World → Prop} (hr : (execOp a.eval o).run P w = .ok (.value v) w') (h : K (a.put o.dst v) w') : o.wp P a w K Q := by
  unfold Oper.wp; rw [hr]; exact h
theorem wp_of_skipL {P : Program} {o : Oper} {a : Act} {w w' : World} {K : Act → World → Prop} {Q : Exit → Act → World → Prop} (hr : (execOp a.eval o).run P w = .ok .skip w') (h : K (a.put o.dst undef) w') : o.wp P a w K Q := by
  unfold Oper.wp; rw [hr]; exact h
section
variable (d : Option Tmp) (t : TypeId) (pos : String) (af : Array Edge) (g : Option (Nat × Bool)) (A : Act) (w : World)
theorem run_moveL (x : Tmp) (v : Value) (hx : A.eval (.tmp x) = v) : (execOp A.eval ⟨d, .move (.tmp x), t, pos, af, g⟩).run Tryz.prog w = .ok (.value v) w := by
  subst hx; rfl
theorem run_assignL (x : Tmp) (v : Value) (hx : A.eval (.tmp x) = v) : (execOp A.eval ⟨d, .assign (.tmp x), t, pos, af, g⟩).run Tryz.prog w = .ok (.value v) w := by
  subst hx; rfl
theorem wp_of_callL {K : Act → World → Prop} {Q : Exit → Act → World → Prop} (f : FuncId) (ats : Array TypeId) (xs : List Operand) (vs : List Value) (hx : xs.map A.eval = vs)
    (hcf : (callFunc f vs.toArray).run Tryz.prog w = .ok (.enter f vs.toArray) w) (h : Calls Tryz.prog f vs.toArray w fun e w' => ∃ v, e = .returned v ∧ K (A.put d v) w') : Oper.wp Tryz.prog ⟨d, .call { callee := .value (.func f), args := xs.toArray, argTypes := ats }, t, pos, af, g⟩ A w K Q := by
  have e : (execOp A.eval ⟨d, .call { callee := .value (.func f), args := xs.toArray, argTypes := ats }, t, pos, af, g⟩).run Tryz.prog w = .ok (.enter f vs.toArray) w := by
    have e0 : execOp A.eval ⟨d, .call { callee := .value (.func f), args := xs.toArray, argTypes := ats }, t, pos, af, g⟩ = callFunc f (#[] ++ (xs.toArray.map A.eval) ++ #[]) := rfl
    have e1 : (#[] ++ (xs.toArray.map A.eval) ++ #[] : Array Value) = vs.toArray := by rw [← hx]; simp
    rw [e0, e1]
    exact hcf
  unfold Oper.wp
  rw [e]
  refine h.mono fun e' w' he => ?_
  obtain ⟨v, rfl, hv⟩ := he
  exact hv
end
end Go.Proofs.YtfkejnnbfneieaaGreatDoor

/- A region that draws its order, of operations of which some are guarded, where every guard is met: each value that is yielded has its predicate, which new memory keeps; all have it at the end. Of no seat's types. -/
namespace Go.Proofs.YtfkejnnbfneieaaGreatDoor
open Go.RowKit

structure MonoT (ops : Array Oper) (W : World) (pv : Nat → Value → World → Prop) (e : Ent) (w : World) : Prop where
  below : Below W.heap.size W w
  pv : ∀ k u, e k = some u → pv k u w
  order : ∀ j i, e j ≠ none → Region.waitsFor .any ops j i = true → e i ≠ none

theorem wp_region_monoG {P : Program} {id : Nat} {Q : Exit → Act → World → Prop} {a : Act} {W : World} {l : List Oper} (N : Nat) (pv : Nat → Value → World → Prop)
    (hst : ∀ k u w w', pv k u w → Below w.heap.size w w' → pv k u w')
    (hm : P.follows .mixedOrders = true) (hB : entB3 l.toArray N = true) (hN : a.tmps.size = N)
    (hg : ∀ (i : Nat) (o : Oper) (g : Nat) (b : Bool), l[i]? = some o → o.guard = some (g, b) → ∀ u w, pv g u w → u = .bool b)
    (hs : ∀ (i : Nat) (o : Oper), l[i]? = some o → ∀ (w : World) (A : Act), Below W.heap.size W w →
      (∀ s j, Region.waitsFor .any l.toArray i j = true → dstOf l.toArray j = some s → pv j (A.eval (.tmp s)) w) →
      (∀ s, (List.range l.length).all (fun j => dstOf l.toArray j != some s || Region.waitsFor .any l.toArray j i) = true → A.eval (.tmp s) = a.eval (.tmp s)) →
      o.wp P A w (fun A' w' => ∃ v, A' = A.put o.dst v ∧ Below w.heap.size w w' ∧ pv i v w') Q)
    (hend : ∀ e w, Below W.heap.size W w → (∀ i, i < l.length → ∃ v, e i = some v ∧ pv i v w) → Q .normal (fillTo l.toArray e l.length a) w) : (Code.region id l.toArray true).wp P Q a W := by
  have step : ∀ {e : Ent} {w w' : World} {i : Nat} {v : Value}, MonoT l.toArray W pv e w → e i = none → (∀ j, Region.waitsFor .any l.toArray i j = true → ∃ v, e j = some v) → Below w.heap.size w w' → pv i v w' → MonoT l.toArray W pv (entUpd e i v) w' := by
    intro e w w' i v hT hei hw hb hp
    refine ⟨below_step hT.below hb, fun k u hu => ?_, fun j m hj hm => ?_⟩
    · by_cases hk : k = i
      · subst hk
        rw [entUpd_same] at hu
        obtain rfl := Option.some.inj hu
        exact hp
      · rw [entUpd_other e v hk] at hu
        exact hst k u w w' (hT.pv k u hu) hb
    · by_cases hmi : m = i
      · subst hmi; rw [entUpd_same]; simp
      rw [entUpd_other e v hmi]
      by_cases hji : j = i
      · subst hji
        obtain ⟨u, hu⟩ := hw m hm
        rw [hu]; simp
      · rw [entUpd_other e v hji] at hj
        exact hT.order j m hj hm
  refine wp_region_ent3 N (MonoT l.toArray W pv) hm hB hN ⟨(Below.refl _ _).drew, fun k u h => (by cases h), fun j i hj _ => absurd rfl hj⟩ ?_ ?_ ?_
  · intro i o ho e w A hT hei hwt hsee haway hguard
    refine Oper.wp_mono (fun A' w' h => ?_) (hs i o ho w A hT.below (fun s j hw hj => hT.pv j _ (hsee s j hw hj)) (fun s hall => haway s fun j hj => by
      have hlt : j < l.length := by have := dstOf_lt hj; simpa using this
      have h1 := List.all_eq_true.1 hall j (List.mem_range.2 hlt)
      rw [hj] at h1
      have h2 : Region.waitsFor .any l.toArray j i = true := by simpa using h1
      cases hx : e j with
      | none => rfl
      | some u => exact absurd hei (hT.order j i (by rw [hx]; simp) h2)))
    obtain ⟨v, rfl, hb, hp⟩ := h
    exact ⟨v, rfl, step hT hei hwt hb hp⟩
  · intro i o g b ho hgd e w u hT hei hwt heg hne
    exact absurd (hg i o g b ho hgd u w (hT.pv g u heg)) hne
  · intro e w hT hall
    exact hend e w hT.below fun i hi => by
      obtain ⟨v, hv⟩ := hall i hi
      exact ⟨v, hv, hT.pv i v hv⟩
end Go.Proofs.YtfkejnnbfneieaaGreatDoor
