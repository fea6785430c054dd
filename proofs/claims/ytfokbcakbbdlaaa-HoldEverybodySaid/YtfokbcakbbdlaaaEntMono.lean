/- A region that draws its order, of operations without guards that make at most new memory: what holds of each value that was yielded stays so, and holds of all at the end. -/
import Derived.Test.YtfokbcakbbdlaaaEnt
import Derived.Test.YtfokbcakbbdlaaaHldAgain
namespace Go.Proofs.Ytfokbcakbbdlaaa
open Go.RowKit

theorem wp_region_mono {P : Program} {id : Nat} {Q : Exit → Act → World → Prop} {a : Act} {W : World} {l : List Oper} (N : Nat) (pv : Nat → Value → World → Prop)
    (hst : ∀ k u w w', pv k u w → Below w.heap.size w w' → pv k u w')
    (hm : P.follows .mixedOrders = true) (hB : entB l.toArray N = true) (hN : a.tmps.size = N)
    (hs : ∀ (i : Nat) (o : Oper), l[i]? = some o → ∀ (w : World) (A : Act), Below W.heap.size W w →
      (∀ s ∈ o.looksAt l.toArray, ∀ j, dstOf l.toArray j = some s → pv j (A.eval (.tmp s)) w) → (∀ s, (List.range l.length).all (fun j => dstOf l.toArray j != some s) = true → A.eval (.tmp s) = a.eval (.tmp s)) →
      o.wp P A w (fun A' w' => ∃ v, A' = A.put o.dst v ∧ Below w.heap.size w w' ∧ pv i v w') Q)
    (hend : ∀ e w, Below W.heap.size W w → (∀ i, i < l.length → ∃ v, e i = some v ∧ pv i v w) → Q .normal (fillTo l.toArray e l.length a) w) : (Code.region id l.toArray true).wp P Q a W := by
  refine wp_region_ent N (fun e w => Below W.heap.size W w ∧ ∀ k u, e k = some u → pv k u w) hm hB hN ⟨(Below.refl _ _).drew, fun k u h => by cases h⟩ ?_ ?_
  · intro i o ho e w A hT hei hwt hsee haway
    refine Oper.wp_mono (fun A' w' h => ?_) (hs i o ho w A hT.1 (fun s hs j hj => hT.2 j _ (hsee s hs j hj)) haway)
    obtain ⟨v, rfl, hb, hp⟩ := h
    refine ⟨v, rfl, below_step hT.1 hb, fun k u hu => ?_⟩
    by_cases hk : k = i
    · subst hk
      rw [entUpd_same] at hu
      obtain rfl := Option.some.inj hu
      exact hp
    · rw [entUpd_other e v hk] at hu
      exact hst k u w w' (hT.2 k u hu) hb
  · intro e w hT hall
    exact hend e w hT.1 fun i hi => by
      obtain ⟨v, hv⟩ := hall i hi
      exact ⟨v, hv, hT.2 i v hv⟩

section
variable (d : Option Tmp) (t : TypeId) (pos : String) (af : Array Edge) (g : Option (Nat × Bool)) (A : Act) (w : World)
theorem run_next_int (x : Tmp) (k : Nat) (hk : k < 4611686018427387904) (hx : A.eval (.tmp x) = .int .i64 k) :
    (execOp A.eval ⟨d, .binOp .add 3 (.tmp x) (.const (.int .i64 1)) 3, t, pos, af, g⟩).run Try.prog w = .ok (.value (.int .i64 ((k + 1 : Nat) : Int))) w := by
  have h1 : (k : Int) < 4611686018427387904 := by omega
  have h2 : ((k + 1 : Nat) : Int) = (k : Int) + 1 := by omega
  have h3 : IntKind.i64.wrap ((k : Int) + 1) = (k : Int) + 1 := by rw [IntKind.wrap_i64]; omega
  rw [h2]
  unfold execOp
  simp only [hx]
  go_simp
theorem run_cut_holds (x y z : Tmp) (b o n c k : Nat) (hk : k < n) (hn : n ≤ c) (hx : A.eval (.tmp x) = .slice (some ⟨b, o, none⟩) n c) (hy : A.eval (.tmp y) = .int .i64 k) (hz : A.eval (.tmp z) = .int .i64 ((k + 1 : Nat) : Int)) :
    (execOp A.eval ⟨d, .slice 26 (.tmp x) (some (.tmp y)) (some (.tmp z)) none, t, pos, af, g⟩).run Try.prog w = .ok (.value (.slice (some ⟨b, o + k * 4, none⟩) 1 (c - k))) w := by
  have hck : ¬ c = k := by omega
  unfold execOp
  simp only [hx, hy, hz, Option.map_some, Option.map_none]
  go_simp
  intro h
  exact absurd (h (by omega)) (by omega)
theorem run_load_hold (x : Tmp) (b : Nat) (c0 c1 c2 c3 : Value) (hx : A.eval (.tmp x) = .pointer (some ⟨b, 0, none⟩)) (hw : Whole w b 31 #[c0, c1, c2, c3]) :
    (execOp A.eval ⟨d, .load 31 (.tmp x), t, pos, af, g⟩).run Try.prog w = .ok (.value (.agg #[c0, c1, c2, c3])) w := by
  have h0 := hw.cell 0
  have h1 := hw.cell 1
  have h2 := hw.cell 2
  have h3 := hw.cell 3
  unfold execOp
  simp only [hx]
  go_simp
theorem run_one_hold (x : Tmp) (c0 c1 c2 c3 : Value) (hx : A.eval (.tmp x) = .agg #[c0, c1, c2, c3]) :
    (execOp A.eval ⟨d, .buildSlice 26 1 #[(0, .tmp x)], t, pos, af, g⟩).run Try.prog w = .ok (.value (.slice (some ⟨w.heap.size, 0, none⟩) 1 1)) (w.alloc (.cells #[c0, c1, c2, c3] 31)) := by
  unfold execOp
  simp only [hx, List.map_toArray, List.map_cons, List.map_nil]
  go_simp
theorem run_not (x : Tmp) (b : Bool) (hx : A.eval (.tmp x) = .bool b) :
    (execOp A.eval ⟨d, .unOp .not 4 (.tmp x), t, pos, af, g⟩).run Try.prog w = .ok (.value (.bool !b)) w := by
  unfold execOp
  simp only [hx]
  go_simp
end

end Go.Proofs.Ytfokbcakbbdlaaa
