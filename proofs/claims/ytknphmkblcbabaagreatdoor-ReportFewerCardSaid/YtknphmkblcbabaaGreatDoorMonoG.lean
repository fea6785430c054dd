/- A region that draws its order, of operations of which some are guarded, where every guard is met: each value that is yielded has its predicate, which new memory keeps; all have it at the end. Of no seat's types. -/
import Derived.Test.YtknphmkblcbabaaGreatDoorEntGuard
import Derived.Test.YtknphmkblcbabaaGreatDoorMono
namespace Go.Proofs.YtknphmkblcbabaaGreatDoor
open Go.RowKit

structure MonoT (ops : Array Oper) (W : World) (pv : Nat → Value → World → Prop) (e : Ent) (w : World) : Prop where
  below : Below W.heap.size W w
  pv : ∀ k u, e k = some u → pv k u w
  order : ∀ j i, e j ≠ none → Region.waitsFor .any ops j i = true → e i ≠ none

theorem wp_region_monoG {P : Program} {id : Nat} {Q : Exit → Act → World → Prop} {a : Act} {W : World} {l : List Oper} (N : Nat) (pv : Nat → Value → World → Prop)
    (hst : ∀ k u w w', pv k u w → Below w.heap.size w w' → pv k u w')
    (hm : P.follows .mixedOrders = true) (hB : entB3 l.toArray N = true) (hN : a.tmps.size = N)
    (hg : ∀ (i : Nat) (o : Oper) (g : Nat) (b : Bool), l[i]? = some o → o.guard = some (g, b) → ∀ u w, pv g u w → u = .bool b)
    (hs : ∀ (i : Nat) (o : Oper), l[i]? = some o → ∀ (w : World) (A : Act), Below W.heap.size W w →
      (∀ s j, Region.waitsFor .any l.toArray i j = true → dstOf l.toArray j = some s → pv j (A.eval (.tmp s)) w) →
      (∀ s, (List.range l.length).all (fun j => dstOf l.toArray j != some s || Region.waitsFor .any l.toArray j i) = true → A.eval (.tmp s) = a.eval (.tmp s)) →
      o.wp P A w (fun A' w' => ∃ v, A' = A.put o.dst v ∧ Below w.heap.size w w' ∧ pv i v w') Q)
    (hend : ∀ e w, Below W.heap.size W w → (∀ i, i < l.length → ∃ v, e i = some v ∧ pv i v w) → Q .normal (fillTo l.toArray e l.length a) w) : (Code.region id l.toArray true).wp P Q a W := by
  have step : ∀ {e : Ent} {w w' : World} {i : Nat} {v : Value}, MonoT l.toArray W pv e w → e i = none → (∀ j, Region.waitsFor .any l.toArray i j = true → ∃ v, e j = some v) → Below w.heap.size w w' → pv i v w' → MonoT l.toArray W pv (entUpd e i v) w' := by
    intro e w w' i v hT hei hw hb hp
    refine ⟨below_step hT.below hb, fun k u hu => ?_, fun j m hj hm => ?_⟩
    · by_cases hk : k = i
      · subst hk
        rw [entUpd_same] at hu
        obtain rfl := Option.some.inj hu
        exact hp
      · rw [entUpd_other e v hk] at hu
        exact hst k u w w' (hT.pv k u hu) hb
    · by_cases hmi : m = i
      · subst hmi; rw [entUpd_same]; simp
      rw [entUpd_other e v hmi]
      by_cases hji : j = i
      · subst hji
        obtain ⟨u, hu⟩ := hw m hm
        rw [hu]; simp
      · rw [entUpd_other e v hji] at hj
        exact hT.order j m hj hm
  refine wp_region_ent3 N (MonoT l.toArray W pv) hm hB hN ⟨(Below.refl _ _).drew, fun k u h => (by cases h), fun j i hj _ => absurd rfl hj⟩ ?_ ?_ ?_
  · intro i o ho e w A hT hei hwt hsee haway hguard
    refine Oper.wp_mono (fun A' w' h => ?_) (hs i o ho w A hT.below (fun s j hw hj => hT.pv j _ (hsee s j hw hj)) (fun s hall => haway s fun j hj => by
      have hlt : j < l.length := by have := dstOf_lt hj; simpa using this
      have h1 := List.all_eq_true.1 hall j (List.mem_range.2 hlt)
      rw [hj] at h1
      have h2 : Region.waitsFor .any l.toArray j i = true := by simpa using h1
      cases hx : e j with
      | none => rfl
      | some u => exact absurd hei (hT.order j i (by rw [hx]; simp) h2)))
    obtain ⟨v, rfl, hb, hp⟩ := h
    exact ⟨v, rfl, step hT hei hwt hb hp⟩
  · intro i o g b ho hgd e w u hT hei hwt heg hne
    exact absurd (hg i o g b ho hgd u w (hT.pv g u heg)) hne
  · intro e w hT hall
    exact hend e w hT.below fun i hi => by
      obtain ⟨v, hv⟩ := hall i hi
      exact ⟨v, hv, hT.pv i v hv⟩
end Go.Proofs.YtknphmkblcbabaaGreatDoor
