/- x, y := a, b of structs in a drawn region: several blocks that are made and then filled. Of no seat's types. -/
import Derived.Test.YtbnofoncapaabaaGreatDoorRunW
namespace Go.Proofs.YtbnofoncapaabaaGreatDoor
open Go.RowKit

inductive NF
  | bel
  | zer (ia is : Nat)
  | sto (ia is : Nat)
  | dis (ia ib : Nat)
def NF.key : NF → EKey
  | .bel => ([], [])
  | .zer a s => ([s], [a])
  | .sto a s => ([], [a, s])
  | .dis a b => ([], [a, b])
def NF.holds (W : World) (te : TypeId) (z c : Array Value) : NF → (Nat → Value) → World → Prop
  | .bel, _, w => Below W.heap.size W w
  | .zer a _, x, w => ∃ g, x a = .pointer (some ⟨g, 0, none⟩) ∧ W.heap.size ≤ g ∧ Whole w g te z
  | .sto a _, x, w => ∃ g, x a = .pointer (some ⟨g, 0, none⟩) ∧ W.heap.size ≤ g ∧ Whole w g te c
  | .dis a b, x, _ => ∃ g h, x a = .pointer (some ⟨g, 0, none⟩) ∧ x b = .pointer (some ⟨h, 0, none⟩) ∧ g ≠ h
def nfL (ps : List (Nat × Nat)) : List NF := .bel :: (ps.map (fun p => NF.zer p.1 p.2) ++ (ps.map (fun p => NF.sto p.1 p.2) ++ ps.flatMap fun p => (ps.filter fun q => p.1 != q.1).map fun q => NF.dis p.1 q.1))
def nfK (ps : List (Nat × Nat)) : List EKey := (nfL ps).map NF.key
def nfP (W : World) (te : TypeId) (z c : Array Value) (ps : List (Nat × Nat)) (j : Nat) (x : Nat → Value) (w : World) : Prop := ∀ f, (nfL ps)[j]? = some f → f.holds W te z c x w
/-- The pairs' operations are all different. -/
def nfOk (ps : List (Nat × Nat)) : Bool := ps.all fun p => ps.all fun q => p.1 != q.2 && ((p.1 == q.1) == (p.2 == q.2))
section
variable {W w w' : World} {te : TypeId} {z c : Array Value} {ps : List (Nat × Nat)} {e : Ent} {ops : Array Oper} {v : Value} {pv : Nat → Value → Prop}
theorem nfK_at {j : Nat} {k : EKey} (h : (nfK ps)[j]? = some k) : ∃ f, (nfL ps)[j]? = some f ∧ f.key = k := by
  unfold nfK at h
  rw [List.getElem?_map] at h
  cases hq : (nfL ps)[j]? with
  | none => rw [hq] at h; cases h
  | some f => rw [hq] at h; exact ⟨f, rfl, Option.some.inj h⟩
theorem nf_mem {f : NF} (h : f ∈ nfL ps) : f = .bel ∨ (∃ p ∈ ps, f = .zer p.1 p.2) ∨ (∃ p ∈ ps, f = .sto p.1 p.2) ∨ ∃ p ∈ ps, ∃ q ∈ ps, p.1 ≠ q.1 ∧ f = .dis p.1 q.1 := by
  unfold nfL at h
  simp only [List.mem_cons, List.mem_append, List.mem_map, List.mem_flatMap, List.mem_filter, bne_iff_ne] at h
  rcases h with h | ⟨p, hp, rfl⟩ | ⟨p, hp, rfl⟩ | ⟨p, hp, q, ⟨hq, hne⟩, rfl⟩
  · exact Or.inl h
  · exact Or.inr (Or.inl ⟨p, hp, rfl⟩)
  · exact Or.inr (Or.inr (Or.inl ⟨p, hp, rfl⟩))
  · exact Or.inr (Or.inr (Or.inr ⟨p, hp, q, hq, hne, rfl⟩))
theorem nf_in {f : NF} (h : f = .bel ∨ (∃ p ∈ ps, f = .zer p.1 p.2) ∨ (∃ p ∈ ps, f = .sto p.1 p.2) ∨ ∃ p ∈ ps, ∃ q ∈ ps, p.1 ≠ q.1 ∧ f = .dis p.1 q.1) : f ∈ nfL ps := by
  unfold nfL
  simp only [List.mem_cons, List.mem_append, List.mem_map, List.mem_flatMap, List.mem_filter, bne_iff_ne]
  rcases h with h | ⟨p, hp, rfl⟩ | ⟨p, hp, rfl⟩ | ⟨p, hp, q, hq, hne, rfl⟩
  · exact Or.inl h
  · exact Or.inr (Or.inl ⟨p, hp, rfl⟩)
  · exact Or.inr (Or.inr (Or.inl ⟨p, hp, rfl⟩))
  · exact Or.inr (Or.inr (Or.inr ⟨p, hp, q, ⟨hq, hne⟩, rfl⟩))
theorem NF.below {f : NF} {x : Nat → Value} (h : f.holds W te z c x w) (hb : Below w.heap.size w w') : f.holds W te z c x w' := by
  cases f with
  | bel => exact below_step h hb
  | zer a s => obtain ⟨g, h1, h2, h3⟩ := h; exact ⟨g, h1, h2, whole_belowM h3 hb⟩
  | sto a s => obtain ⟨g, h1, h2, h3⟩ := h; exact ⟨g, h1, h2, whole_belowM h3 hb⟩
  | dis a b => exact h
theorem nfP_below : ∀ j x w w', nfP W te z c ps j x w → Below w.heap.size w w' → nfP W te z c ps j x w' := fun _ _ _ _ h hb f hf => NF.below (h f hf) hb
theorem nfP_cg (j : Nat) (kl nd : List Nat) (hk : (nfK ps)[j]? = some (kl, nd)) (x y : Nat → Value) (w : World) (h : ∀ i ∈ nd, x i = y i) (h1 : nfP W te z c ps j x w) : nfP W te z c ps j y w := by
  obtain ⟨f, hf, he⟩ := nfK_at hk
  intro f' hf'
  obtain rfl : f = f' := by rw [hf] at hf'; exact Option.some.inj hf'
  have h2 := h1 f hf
  cases f with
  | bel => exact h2
  | zer a s => cases he; have e := h a (by simp); simp only [NF.holds, e] at h2 ⊢; exact h2
  | sto a s => cases he; have e := h a (by simp); simp only [NF.holds, e] at h2 ⊢; exact h2
  | dis a b => cases he; have e := h a (by simp); have e2 := h b (by simp); simp only [NF.holds, e, e2] at h2 ⊢; exact h2
theorem nfP_zero (j : Nat) (kl : List Nat) (hk : (nfK ps)[j]? = some (kl, [])) : nfP W te z c ps j (fun _ => undef) W.drew := by
  obtain ⟨f, hf, he⟩ := nfK_at hk
  intro f' hf'
  obtain rfl : f = f' := by rw [hf] at hf'; exact Option.some.inj hf'
  cases f with
  | bel => exact (Below.refl _ _).drew
  | zer a s => cases he
  | sto a s => cases he
  | dis a b => cases he
/-- A fact by its name. -/
theorem nf_fact (hT : EFacts ops (nfK ps) (nfP W te z c ps) pv e w) {f : NF} (hf : f ∈ nfL ps) (h1 : ∀ j ∈ f.key.1, e j = none) (h2 : ∀ j ∈ f.key.2, e j ≠ none) (h3 : f.key.2.all (fun j => guardOf ops j == none) = true) : f.holds W te z c (valOf e) w := by
  obtain ⟨j, hj, hjf⟩ := List.getElem_of_mem hf
  have e1 : (nfL ps)[j]? = some f := by rw [List.getElem?_eq_getElem hj, hjf]
  have hk : (nfK ps)[j]? = some (f.key.1, f.key.2) := by unfold nfK; rw [List.getElem?_map, e1]; rfl
  exact hT.fact j hk h1 h2 h3 f e1
theorem nf_below (hT : EFacts ops (nfK ps) (nfP W te z c ps) pv e w) : Below W.heap.size W w :=
  nf_fact hT (f := .bel) (nf_in (Or.inl rfl)) (by simp [NF.key]) (by simp [NF.key]) rfl
/-- What the value of a pair's first operation is. -/
theorem nf_ptr (hT : EFacts ops (nfK ps) (nfP W te z c ps) pv e w) (hg : ps.all (fun p => guardOf ops p.1 == none && guardOf ops p.2 == none) = true) {p : Nat × Nat} (hp : p ∈ ps) {v : Value} (hv : e p.1 = some v) :
    ∃ g, v = .pointer (some ⟨g, 0, none⟩) ∧ W.heap.size ≤ g ∧ g < w.heap.size ∧ (e p.2 = none → Whole w g te z) := by
  have hg2 := List.all_eq_true.1 hg p hp
  simp only [Bool.and_eq_true] at hg2
  cases hs : e p.2 with
  | none =>
    obtain ⟨g, h1, h2, h3⟩ := nf_fact hT (f := .zer p.1 p.2) (nf_in (Or.inr (Or.inl ⟨p, hp, rfl⟩))) (by simp [NF.key, hs]) (by simp [NF.key, hv]) (by simp only [NF.key, List.all_cons, List.all_nil, Bool.and_true]; exact hg2.1)
    rw [valOf_some hv] at h1
    exact ⟨g, h1, h2, h3.lt, fun _ => h3⟩
  | some u =>
    obtain ⟨g, h1, h2, h3⟩ := nf_fact hT (f := .sto p.1 p.2) (nf_in (Or.inr (Or.inr (Or.inl ⟨p, hp, rfl⟩)))) (by simp [NF.key]) (by simp [NF.key, hv, hs]) (by simp only [NF.key, List.all_cons, List.all_nil, Bool.and_true, Bool.and_eq_true]; exact hg2)
    rw [valOf_some hv] at h1
    exact ⟨g, h1, h2, h3.lt, fun h => by cases h⟩
theorem nf_leaves_alloc (hok : nfOk ps = true) (hT : EFacts ops (nfK ps) (nfP W te z c ps) pv e w) (hg : ps.all (fun p => guardOf ops p.1 == none && guardOf ops p.2 == none) = true) {ia is : Nat} (hp : (ia, is) ∈ ps) (hs : e is = none) :
    LeavesE ops (nfK ps) (nfP W te z c ps) e ia w (.pointer (some ⟨w.heap.size, 0, none⟩)) (w.alloc (.cells z te)) := by
  have hB := nf_below hT
  have ok : ∀ p ∈ ps, ∀ q ∈ ps, p.1 ≠ q.2 ∧ (p.1 = q.1 ↔ p.2 = q.2) := fun p hp q hq => by
    have h := List.all_eq_true.1 (List.all_eq_true.1 hok p hp) q hq
    simp only [Bool.and_eq_true, bne_iff_ne, ne_eq, beq_iff_eq] at h
    refine ⟨h.1, ?_⟩
    have h2 := h.2
    by_cases a : p.1 = q.1 <;> by_cases b : p.2 = q.2 <;> simp_all
  refine .below nfP_below ((Below.refl _ _).alloc (Nat.le_refl _) _) fun j kl nd hk hi _ _ hd f hf => ?_
  obtain ⟨f', hf', he⟩ := nfK_at hk
  obtain rfl : f' = f := by rw [hf'] at hf; exact Option.some.inj hf
  have me : valOf (entUpd e ia (.pointer (some ⟨w.heap.size, 0, none⟩))) ia = .pointer (some ⟨w.heap.size, 0, none⟩) := valOf_some (entUpd_same ..)
  rcases nf_mem (List.mem_of_getElem? hf') with rfl | ⟨p, hpp, rfl⟩ | ⟨p, hpp, rfl⟩ | ⟨p, hpp, q, hq, hne, rfl⟩
  · cases he; cases hi
  · cases he
    obtain rfl := List.mem_singleton.1 hi
    exact ⟨w.heap.size, me, hB.size, Whole.new _ _ _⟩
  · cases he
    have hne := (ok (ia, is) hp p hpp).1
    simp only [List.mem_cons, List.not_mem_nil, or_false] at hi
    rcases hi with h | h
    · have h2 : is = p.2 := ((ok (ia, is) hp p hpp).2).1 h
      have := (hd p.2 (by simp) (fun h3 => hne (by rw [h3]))).1
      rw [← h2] at this
      exact absurd hs this
    · exact absurd h hne
  · cases he
    simp only [List.mem_cons, List.not_mem_nil, or_false] at hi
    rcases hi with h | h
    · have hq0 : q.1 ≠ ia := fun h3 => hne (by rw [← h, h3])
      obtain ⟨h2, -⟩ := hd q.1 (by simp) hq0
      obtain ⟨u, hu⟩ := Option.ne_none_iff_exists'.1 h2
      obtain ⟨g, rfl, -, hlt, -⟩ := nf_ptr hT hg hq hu
      refine ⟨w.heap.size, g, by rw [← h]; exact me, ?_, by omega⟩
      unfold valOf
      rw [entUpd_other e _ hq0, hu]; rfl
    · have hq0 : p.1 ≠ ia := fun h3 => hne (by rw [← h, h3])
      obtain ⟨h2, -⟩ := hd p.1 (by simp) hq0
      obtain ⟨u, hu⟩ := Option.ne_none_iff_exists'.1 h2
      obtain ⟨g, rfl, -, hlt, -⟩ := nf_ptr hT hg hpp hu
      refine ⟨g, w.heap.size, ?_, by rw [← h]; exact me, by omega⟩
      unfold valOf
      rw [entUpd_other e _ hq0, hu]; rfl
theorem nf_leaves_store (hok : nfOk ps = true) (hT : EFacts ops (nfK ps) (nfP W te z c ps) pv e w) (hg : ps.all (fun p => guardOf ops p.1 == none && guardOf ops p.2 == none) = true) {ia is : Nat} (hp : (ia, is) ∈ ps) {g : Nat}
    (ha : e ia = some (.pointer (some ⟨g, 0, none⟩))) (hg0 : W.heap.size ≤ g) (hgr : w.grownBy w' (some g)) (hw : Whole w' g te c) : LeavesE ops (nfK ps) (nfP W te z c ps) e is w v w' := by
  have hB := nf_below hT
  have ok : ∀ p ∈ ps, ∀ q ∈ ps, p.1 ≠ q.2 ∧ (p.1 = q.1 ↔ p.2 = q.2) := fun p hp q hq => by
    have h := List.all_eq_true.1 (List.all_eq_true.1 hok p hp) q hq
    simp only [Bool.and_eq_true, bne_iff_ne, ne_eq, beq_iff_eq] at h
    refine ⟨h.1, ?_⟩
    have h2 := h.2
    by_cases a : p.1 = q.1 <;> by_cases b : p.2 = q.2 <;> simp_all
  have hgd := fun p (hp : p ∈ ps) => List.all_eq_true.1 hg p hp
  refine ⟨fun j kl nd hk hi _ _ hd f hf => ?_, fun j kl nd hk hi hi2 hkl hnd hu f hf => ?_⟩
  all_goals
    obtain ⟨f', hf', he⟩ := nfK_at hk
    obtain rfl : f' = f := by rw [hf'] at hf; exact Option.some.inj hf
  · rcases nf_mem (List.mem_of_getElem? hf') with rfl | ⟨p, hpp, rfl⟩ | ⟨p, hpp, rfl⟩ | ⟨p, hpp, q, hq, hne, rfl⟩
    · cases he; cases hi
    · cases he
      exact absurd (List.mem_singleton.1 hi).symm (ok p hpp (ia, is) hp).1
    · cases he
      simp only [List.mem_cons, List.not_mem_nil, or_false] at hi
      rcases hi with h | h
      · exact absurd h.symm (ok p hpp (ia, is) hp).1
      · have h2 : ia = p.1 := ((ok (ia, is) hp p hpp).2).2 h
        refine ⟨g, ?_, hg0, hw⟩
        unfold valOf
        rw [← h2, entUpd_other e v (ok (ia, is) hp (ia, is) hp).1, ha]; rfl
    · cases he
      simp only [List.mem_cons, List.not_mem_nil, or_false] at hi
      rcases hi with h | h
      · exact absurd h.symm (ok p hpp (ia, is) hp).1
      · exact absurd h.symm (ok q hq (ia, is) hp).1
  · have h0 := hu f' hf'
    -- a pair that is not this one has another block
    have other : ∀ p ∈ ps, p.2 ≠ is → ∀ h, valOf e p.1 = .pointer (some ⟨h, 0, none⟩) → e p.1 ≠ none → h ≠ g := fun p hpp hn h hv hx e3 => by
      have hne : ia ≠ p.1 := fun h4 => hn (((ok (ia, is) hp p hpp).2).1 h4).symm
      obtain ⟨a, b, h5, h6, h7⟩ := nf_fact hT (f := .dis ia p.1) (nf_in (Or.inr (Or.inr (Or.inr ⟨(ia, is), hp, p, hpp, hne, rfl⟩)))) (by simp [NF.key]) (by simp [NF.key, ha, hx]) (by
        have g1 := hgd _ hp
        have g2 := hgd _ hpp
        simp only [Bool.and_eq_true] at g1 g2
        simp only [NF.key, List.all_cons, List.all_nil, Bool.and_true, Bool.and_eq_true]
        exact ⟨g1.1, g2.1⟩)
      rw [valOf_some ha] at h5
      rw [hv] at h6
      cases h5
      cases h6
      exact h7 e3.symm
    rcases nf_mem (List.mem_of_getElem? hf') with rfl | ⟨p, hpp, rfl⟩ | ⟨p, hpp, rfl⟩ | ⟨p, hpp, q, hq, hne, rfl⟩
    · exact hB.grown hgr hB.size (fun y e2 => by cases e2; exact hg0)
    · cases he
      obtain ⟨h, h1, h2, h3⟩ := h0
      exact ⟨h, h1, h2, whole_grownM h3 hgr (fun e2 => other p hpp (fun h4 => hi2 (by simp [h4])) h h1 (hnd _ (by simp)) (Option.some.inj e2).symm)⟩
    · cases he
      obtain ⟨h, h1, h2, h3⟩ := h0
      exact ⟨h, h1, h2, whole_grownM h3 hgr (fun e2 => other p hpp (fun h4 => hi (by simp [h4])) h h1 (hnd _ (by simp)) (Option.some.inj e2).symm)⟩
    · exact h0
end
end Go.Proofs.YtbnofoncapaabaaGreatDoor
