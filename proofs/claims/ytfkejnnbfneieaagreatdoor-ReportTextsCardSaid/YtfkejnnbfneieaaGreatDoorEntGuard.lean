/- A region that draws its order, of operations without guards: what holds of all that has been yielded so far, kept by each operation, holds at the end, whatever the order. -/
import Derived.Test.YtfkejnnbfneieaaGreatDoorFresh
namespace Go.Proofs.YtfkejnnbfneieaaGreatDoor
open Go.RowKit

/-- The form of such a region. -/
def entB (ops : Array Oper) (N : Nat) : Bool :=
  Region.noSelect ops && ops.all (fun o => o.guard.isNone) &&
  (List.range ops.size).all (fun i => match ops[i]? with | some o => o.after.all (fun e => decide (e.on < i)) | none => true) &&
  (List.range ops.size).all (fun i => (List.range ops.size).all fun j => i == j || (dstOf ops i).isNone || dstOf ops j != dstOf ops i) &&
  (List.range ops.size).all (fun i => (match dstOf ops i with | some d => decide (d < N) | none => true) && match ops[i]? with
    | some o => (o.looksAt ops).all fun s => (List.range ops.size).all fun j => dstOf ops j != some s || Region.waitsFor .any ops i j
    | none => false)

structure EntForm (ops : Array Oper) (N : Nat) : Prop where
  guards : ∀ (i : Nat) (o : Oper), ops[i]? = some o → o.guard = none
  back : ∀ (i : Nat) (o : Oper), ops[i]? = some o → ∀ e ∈ o.after, e.on < i
  apart : ∀ i j, j ≠ i → ∀ d, dstOf ops i = some d → dstOf ops j ≠ some d
  dst : ∀ i d, dstOf ops i = some d → d < N
  sees : ∀ (i : Nat) (o : Oper), ops[i]? = some o → ∀ s ∈ o.looksAt ops, ∀ j, dstOf ops j = some s → Region.waitsFor .any ops i j = true
theorem entForm {ops : Array Oper} {N : Nat} (h : entB ops N = true) : EntForm ops N := by
  unfold entB at h
  simp only [Bool.and_eq_true, List.all_eq_true, List.mem_range, Array.all_eq_true_iff_forall_mem] at h
  obtain ⟨⟨⟨⟨h2, h3⟩, h4⟩, h5⟩, h6⟩ := h
  have lt : ∀ {i : Nat} {o : Oper}, ops[i]? = some o → i < ops.size := fun ho => (Array.getElem?_eq_some_iff.1 ho).1
  refine ⟨fun i o ho => ?_, fun i o ho e he => ?_, fun i j hji d hd hj => ?_, fun i d hd => ?_, fun i o ho s hs j hj => ?_⟩
  · have := h3 o (Array.mem_of_getElem? ho)
    simpa using this
  · have := h4 i (lt ho)
    rw [ho] at this
    simp only [Array.all_eq_true_iff_forall_mem, decide_eq_true_eq] at this
    exact this e he
  · have := h5 i (dstOf_lt hd) j (dstOf_lt hj)
    rw [hd, hj] at this
    simp at this
    exact hji this.symm
  · have := (h6 i (dstOf_lt hd)).1
    rw [hd] at this
    simpa using this
  · have := (h6 i (lt ho)).2
    rw [ho] at this
    simp only [List.all_eq_true, List.mem_range] at this
    have := this s hs j (dstOf_lt hj)
    rw [hj] at this
    simpa using this

theorem fill_away (ops : Array Oper) (e : Ent) (s : Tmp) (a : Act) : ∀ n, (∀ j, j < n → dstOf ops j ≠ some s) → (fillTo ops e n a).eval (.tmp s) = a.eval (.tmp s)
  | 0, _ => rfl
  | n + 1, h => by
    have ih := fill_away ops e s a n fun j hj => h j (by omega)
    rw [fill_succ]
    cases e n with
    | none => exact ih
    | some v =>
      dsimp only
      rw [Act.eval_put fun d hd hx => h n (by omega) (by cases hx; exact hd)]
      exact ih

theorem wp_region_ent {P : Program} {id : Nat} {Q : Exit → Act → World → Prop} {a : Act} {W : World} {l : List Oper} (N : Nat) (T : Ent → World → Prop)
    (hm : P.follows .mixedOrders = true) (hB : entB l.toArray N = true) (hN : a.tmps.size = N) (h0 : T (fun _ => none) W.drew)
    (hs : ∀ (i : Nat) (o : Oper), l[i]? = some o → ∀ (e : Ent) (w : World) (A : Act), T e w → e i = none → (∀ j, Region.waitsFor .any l.toArray i j = true → ∃ v, e j = some v) →
      (∀ s ∈ o.looksAt l.toArray, ∀ j, dstOf l.toArray j = some s → e j = some (A.eval (.tmp s))) → (∀ s, (List.range l.length).all (fun j => dstOf l.toArray j != some s) = true → A.eval (.tmp s) = a.eval (.tmp s)) →
      o.wp P A w (fun A' w' => ∃ v, A' = A.put o.dst v ∧ T (entUpd e i v) w') Q)
    (hend : ∀ e w, T e w → (∀ i, i < l.length → ∃ v, e i = some v) → Q .normal (fillTo l.toArray e l.length a) w) : (Code.region id l.toArray true).wp P Q a W := by
  have F := entForm hB
  obtain ⟨ops, hops⟩ : ∃ ops : Array Oper, ops = l.toArray := ⟨_, rfl⟩
  have hget : ∀ i : Nat, l[i]? = ops[i]? := fun i => by rw [hops, List.getElem?_toArray]
  have hlen : l.length = ops.size := by rw [hops]; simp
  rw [← hops] at F hend hs ⊢
  rw [hlen] at hend
  refine wp_region_any hm (wpAny_inv (fun listed A w => ∃ e, listed.size = ops.size ∧ A = fillTo ops e ops.size a ∧ (∀ i, i < ops.size → ((e i).isSome = listed.getD i false)) ∧ (∀ j, ops.size ≤ j → e j = none) ∧ T e w) ?_ ?_ unlisted (fun listed i hi => unlisted_set (mem_ready.1 hi).1) _ _ _ _ ?_ ?_)
  · rintro listed A w ⟨e, hz, hA, hent, hfar, hT⟩ i hi
    obtain ⟨hun, o, ho, _⟩ := mem_ready.1 hi
    have hlt : i < ops.size := (Array.getElem?_eq_some_iff.1 ho).1
    have hei : e i = none := by
      have := hent i hlt
      rw [getD_tt hun] at this
      cases he : e i with
      | none => rfl
      | some v => rw [he] at this; cases this
    have hdst : dstOf ops i = o.dst := by unfold dstOf; rw [ho]; rfl
    have hwant : Region.wanted o (yielded ops A.tmps) = true := by unfold Region.wanted; rw [F.guards i o ho]
    have hput : ∀ v, A.put o.dst v = fillTo ops (entUpd e i v) ops.size a := fun v => by rw [hA, fill_upd ops v a hei (fun j hj => F.apart i j hj) _ hlt, hdst]
    have hwaits : ∀ j, Region.waitsFor .any ops i j = true → ∃ v, e j = some v := fun j hj => by
      have hl := waits_listed hi hj
      have hjl : j < ops.size := by
        rcases Nat.lt_or_ge j ops.size with h | h
        · exact h
        · exfalso
          have : listed[j]? = none := Array.getElem?_eq_none (by omega)
          simp [this] at hl
      have := hent j hjl
      rw [hl] at this
      exact Option.isSome_iff_exists.1 this
    have hst := hs i o (by rw [hget]; exact ho) e w A hT hei hwaits
      (fun s hss j hj => by
        obtain ⟨v, hv⟩ := hwaits j (F.sees i o ho s hss j hj)
        rw [hA, fill_at (dstOf_lt hj) hj hv hN (F.dst j s hj) (fun k hk => F.apart j k hk)]
        exact hv)
      (fun s hno => by
        rw [hlen] at hno
        rw [hA]
        refine fill_away ops e s a _ fun j hj => ?_
        have := List.all_eq_true.1 hno j (List.mem_range.2 hj)
        simpa using this)
    unfold wpOp
    rw [ho]
    dsimp only
    rw [if_pos hwant]
    refine Or.inl (Oper.wp_mono (fun A' w' h => ?_) hst)
    obtain ⟨v, rfl, hT'⟩ := h
    exact ⟨entUpd e i v, by rw [Array.size_setIfInBounds]; exact hz, hput v, inv_ent hz hent hun, fun j hj => by rw [entUpd_other e v (by omega)]; exact hfar j hj, hT'⟩
  · rintro listed A w ⟨e, hz, hA, hent, _, hT⟩ hr
    have hall := all_of_ready hz F.back hr
    rw [hA]
    refine hend e w hT fun i hi => ?_
    have := hent i hi
    rw [hall i hi] at this
    exact Option.isSome_iff_exists.1 this
  · unfold unlisted
    have := List.countP_le_length (p := (· == false)) (l := (Array.replicate ops.size false).toList)
    simpa using this
  · exact ⟨fun _ => none, by simp, (fill_none ops _ a _ fun _ _ => rfl).symm, fun i hi => by simp [hi], fun _ _ => rfl, h0⟩

end Go.Proofs.YtfkejnnbfneieaaGreatDoor

/- A region that draws its order, of operations without guards: facts of the world and of what was yielded, each until an operation uses it up, hold at the end, whatever the order. -/
namespace Go.Proofs.YtfkejnnbfneieaaGreatDoor
open Go.RowKit

/-- As wp_region_ent, where an operation may read a slot that a later one writes. -/
def entB2 (ops : Array Oper) (N : Nat) : Bool :=
  Region.noSelect ops && ops.all (fun o => o.guard.isNone) &&
  (List.range ops.size).all (fun i => match ops[i]? with | some o => o.after.all (fun e => decide (e.on < i)) | none => true) &&
  (List.range ops.size).all (fun i => (List.range ops.size).all fun j => i == j || (dstOf ops i).isNone || dstOf ops j != dstOf ops i) &&
  (List.range ops.size).all (fun i => match dstOf ops i with | some d => decide (d < N) | none => true)
structure EntForm2 (ops : Array Oper) (N : Nat) : Prop where
  guards : ∀ (i : Nat) (o : Oper), ops[i]? = some o → o.guard = none
  back : ∀ (i : Nat) (o : Oper), ops[i]? = some o → ∀ e ∈ o.after, e.on < i
  apart : ∀ i j, j ≠ i → ∀ d, dstOf ops i = some d → dstOf ops j ≠ some d
  dst : ∀ i d, dstOf ops i = some d → d < N
theorem entForm2 {ops : Array Oper} {N : Nat} (h : entB2 ops N = true) : EntForm2 ops N := by
  unfold entB2 at h
  simp only [Bool.and_eq_true, List.all_eq_true, List.mem_range, Array.all_eq_true_iff_forall_mem] at h
  obtain ⟨⟨⟨⟨h2, h3⟩, h4⟩, h5⟩, h6⟩ := h
  have lt : ∀ {i : Nat} {o : Oper}, ops[i]? = some o → i < ops.size := fun ho => (Array.getElem?_eq_some_iff.1 ho).1
  refine ⟨fun i o ho => ?_, fun i o ho e he => ?_, fun i j hji d hd hj => ?_, fun i d hd => ?_⟩
  · have := h3 o (Array.mem_of_getElem? ho)
    simpa using this
  · have := h4 i (lt ho)
    rw [ho] at this
    simp only [Array.all_eq_true_iff_forall_mem, decide_eq_true_eq] at this
    exact this e he
  · have := h5 i (dstOf_lt hd) j (dstOf_lt hj)
    rw [hd, hj] at this
    simp at this
    exact hji this.symm
  · have := h6 i (dstOf_lt hd)
    rw [hd] at this
    simpa using this
theorem fill_away2 (ops : Array Oper) (e : Ent) (s : Tmp) (a : Act) : ∀ n, (∀ j, j < n → dstOf ops j = some s → e j = none) → (fillTo ops e n a).eval (.tmp s) = a.eval (.tmp s)
  | 0, _ => rfl
  | n + 1, h => by
    have ih := fill_away2 ops e s a n fun j hj => h j (by omega)
    rw [fill_succ]
    cases hn : e n with
    | none => exact ih
    | some v =>
      dsimp only
      rw [Act.eval_put fun d hd hx => by have := h n (by omega) (by cases hx; exact hd); rw [hn] at this; cases this]
      exact ih
theorem wp_region_ent2 {P : Program} {id : Nat} {Q : Exit → Act → World → Prop} {a : Act} {W : World} {l : List Oper} (N : Nat) (T : Ent → World → Prop)
    (hm : P.follows .mixedOrders = true) (hB : entB2 l.toArray N = true) (hN : a.tmps.size = N) (h0 : T (fun _ => none) W.drew)
    (hs : ∀ (i : Nat) (o : Oper), l[i]? = some o → ∀ (e : Ent) (w : World) (A : Act), T e w → e i = none → (∀ j, Region.waitsFor .any l.toArray i j = true → ∃ v, e j = some v) →
      (∀ s j, Region.waitsFor .any l.toArray i j = true → dstOf l.toArray j = some s → e j = some (A.eval (.tmp s))) → (∀ s, (∀ j, dstOf l.toArray j = some s → e j = none) → A.eval (.tmp s) = a.eval (.tmp s)) →
      o.wp P A w (fun A' w' => ∃ v, A' = A.put o.dst v ∧ T (entUpd e i v) w') Q)
    (hend : ∀ e w, T e w → (∀ i, i < l.length → ∃ v, e i = some v) → Q .normal (fillTo l.toArray e l.length a) w) : (Code.region id l.toArray true).wp P Q a W := by
  have F := entForm2 hB
  obtain ⟨ops, hops⟩ : ∃ ops : Array Oper, ops = l.toArray := ⟨_, rfl⟩
  have hget : ∀ i : Nat, l[i]? = ops[i]? := fun i => by rw [hops, List.getElem?_toArray]
  have hlen : l.length = ops.size := by rw [hops]; simp
  rw [← hops] at F hend hs ⊢
  rw [hlen] at hend
  refine wp_region_any hm (wpAny_inv (fun listed A w => ∃ e, listed.size = ops.size ∧ A = fillTo ops e ops.size a ∧ (∀ i, i < ops.size → ((e i).isSome = listed.getD i false)) ∧ (∀ j, ops.size ≤ j → e j = none) ∧ T e w) ?_ ?_ unlisted (fun listed i hi => unlisted_set (mem_ready.1 hi).1) _ _ _ _ ?_ ?_)
  · rintro listed A w ⟨e, hz, hA, hent, hfar, hT⟩ i hi
    obtain ⟨hun, o, ho, _⟩ := mem_ready.1 hi
    have hlt : i < ops.size := (Array.getElem?_eq_some_iff.1 ho).1
    have hei : e i = none := by
      have := hent i hlt
      rw [getD_tt hun] at this
      cases he : e i with
      | none => rfl
      | some v => rw [he] at this; cases this
    have hdst : dstOf ops i = o.dst := by unfold dstOf; rw [ho]; rfl
    have hwant : Region.wanted o (yielded ops A.tmps) = true := by unfold Region.wanted; rw [F.guards i o ho]
    have hput : ∀ v, A.put o.dst v = fillTo ops (entUpd e i v) ops.size a := fun v => by rw [hA, fill_upd ops v a hei (fun j hj => F.apart i j hj) _ hlt, hdst]
    have hwaits : ∀ j, Region.waitsFor .any ops i j = true → ∃ v, e j = some v := fun j hj => by
      have hl := waits_listed hi hj
      have hjl : j < ops.size := by
        rcases Nat.lt_or_ge j ops.size with h | h
        · exact h
        · exfalso
          have : listed[j]? = none := Array.getElem?_eq_none (by omega)
          simp [this] at hl
      have := hent j hjl
      rw [hl] at this
      exact Option.isSome_iff_exists.1 this
    have hst := hs i o (by rw [hget]; exact ho) e w A hT hei hwaits
      (fun s j hwj hj => by
        obtain ⟨v, hv⟩ := hwaits j hwj
        rw [hA, fill_at (dstOf_lt hj) hj hv hN (F.dst j s hj) (fun k hk => F.apart j k hk)]
        exact hv)
      (fun s hno => by
        rw [hA]
        exact fill_away2 ops e s a _ fun j _ hj => hno j hj)
    unfold wpOp
    rw [ho]
    dsimp only
    rw [if_pos hwant]
    refine Or.inl (Oper.wp_mono (fun A' w' h => ?_) hst)
    obtain ⟨v, rfl, hT'⟩ := h
    exact ⟨entUpd e i v, by rw [Array.size_setIfInBounds]; exact hz, hput v, inv_ent hz hent hun, fun j hj => by rw [entUpd_other e v (by omega)]; exact hfar j hj, hT'⟩
  · rintro listed A w ⟨e, hz, hA, hent, _, hT⟩ hr
    have hall := all_of_ready hz F.back hr
    rw [hA]
    refine hend e w hT fun i hi => ?_
    have := hent i hi
    rw [hall i hi] at this
    exact Option.isSome_iff_exists.1 this
  · unfold unlisted
    have := List.countP_le_length (p := (· == false)) (l := (Array.replicate ops.size false).toList)
    simpa using this
  · exact ⟨fun _ => none, by simp, (fill_none ops _ a _ fun _ _ => rfl).symm, fun i hi => by simp [hi], fun _ _ => rfl, h0⟩

/-- A fact of this kind is: until which operation it holds, if not for ever; of which operation's value it speaks, if of any. -/
abbrev FactKey := Option Nat × Option Nat
structure Facts (ops : Array Oper) (L : List FactKey) (prop : Nat → Value → World → Prop) (pv : Nat → Value → Prop) (e : Ent) (w : World) : Prop where
  base : ∀ (k : Nat) (t : Option Nat), L[k]? = some (t, none) → (∀ j, t = some j → e j = none) → prop k undef w
  of : ∀ (k : Nat) (t : Option Nat) (i : Nat), L[k]? = some (t, some i) → (∀ j, t = some j → e j = none) → ∀ v, e i = some v → prop k v w
  pure : ∀ k u, e k = some u → pv k u
  order : ∀ j i, e j ≠ none → Region.waitsFor .any ops j i = true → e i ≠ none
/-- What an operation must leave. -/
structure Leaves (ops : Array Oper) (L : List FactKey) (prop : Nat → Value → World → Prop) (i : Nat) (w : World) (v : Value) (w' : World) : Prop where
  new : ∀ (k : Nat) (t : Option Nat), L[k]? = some (t, some i) → prop k v w'
  old : ∀ (k : Nat) (p : FactKey), L[k]? = some p → p.1 ≠ some i → p.2 ≠ some i → (∀ j, p.2 = some j → Region.waitsFor .any ops j i = false) → ∀ u, prop k u w → prop k u w'
section
variable {ops : Array Oper} {L : List FactKey} {prop : Nat → Value → World → Prop} {pv : Nat → Value → Prop} {e : Ent} {w w' : World} {i : Nat} {v : Value}
/-- An operation that makes at most new memory. -/
theorem Leaves.below (hst : ∀ k u w w', prop k u w → Below w.heap.size w w' → prop k u w') (hb : Below w.heap.size w w') (h : ∀ (k : Nat) (t : Option Nat), L[k]? = some (t, some i) → prop k v w') : Leaves ops L prop i w v w' :=
  ⟨h, fun k _ _ _ _ _ u hu => hst k u w w' hu hb⟩
theorem noFact (h : L.all (fun p => p.2 != some i) = true) (k : Nat) (t : Option Nat) (hk : L[k]? = some (t, some i)) : prop k v w' := by
  have := List.all_eq_true.1 h _ (List.mem_of_getElem? hk)
  simp at this
/-- One that makes at most new memory, and of whose value no fact speaks. -/
theorem Leaves.plain (hst : ∀ k u w w', prop k u w → Below w.heap.size w w' → prop k u w') (hb : Below w.heap.size w w') (h : L.all (fun p => p.2 != some i) = true) : Leaves ops L prop i w v w' :=
  .below hst hb (noFact h)
theorem Facts.step (hT : Facts ops L prop pv e w) (hei : e i = none) (hw : ∀ j, Region.waitsFor .any ops i j = true → ∃ v, e j = some v) (hp : pv i v) (hl : Leaves ops L prop i w v w') : Facts ops L prop pv (entUpd e i v) w' := by
  have was : ∀ (t : Option Nat), (∀ j, t = some j → entUpd e i v j = none) → (∀ j, t = some j → e j = none) ∧ t ≠ some i := fun t h => by
    refine ⟨fun j hj => ?_, fun hj => ?_⟩
    · by_cases h2 : j = i
      · rw [h2]; exact hei
      · have := h j hj; rwa [entUpd_other e v h2] at this
    · have := h i hj; rw [entUpd_same] at this; cases this
  refine ⟨fun k t hk ht => ?_, fun k t j hk ht u hu => ?_, fun k u hu => ?_, fun j m hj hm => ?_⟩
  · obtain ⟨h1, h2⟩ := was t ht
    exact hl.old k _ hk h2 (by simp) (fun j hj => by cases hj) _ (hT.base k t hk h1)
  · obtain ⟨h1, h2⟩ := was t ht
    by_cases hji : j = i
    · subst hji
      rw [entUpd_same] at hu
      obtain rfl := Option.some.inj hu
      exact hl.new k t hk
    · rw [entUpd_other e v hji] at hu
      refine hl.old k _ hk h2 (by simpa using hji) (fun m hm => ?_) _ (hT.of k t j hk h1 u hu)
      obtain rfl : j = m := Option.some.inj hm
      cases hx : Region.waitsFor .any ops j i with
      | false => rfl
      | true => exact absurd hei (hT.order j i (by rw [hu]; simp) hx)
  · by_cases hk : k = i
    · subst hk
      rw [entUpd_same] at hu
      obtain rfl := Option.some.inj hu
      exact hp
    · rw [entUpd_other e v hk] at hu
      exact hT.pure k u hu
  · by_cases hmi : m = i
    · subst hmi; rw [entUpd_same]; simp
    rw [entUpd_other e v hmi]
    by_cases hji : j = i
    · subst hji
      obtain ⟨u, hu⟩ := hw m hm
      rw [hu]; simp
    · rw [entUpd_other e v hji] at hj
      exact hT.order j m hj hm
end

theorem wp_region_facts {P : Program} {id : Nat} {Q : Exit → Act → World → Prop} {a : Act} {W : World} {l : List Oper} (N : Nat) (L : List FactKey) (prop : Nat → Value → World → Prop) (pv : Nat → Value → Prop)
    (hm : P.follows .mixedOrders = true) (hB : entB2 l.toArray N = true) (hN : a.tmps.size = N) (h0 : ∀ (k : Nat) (t : Option Nat), L[k]? = some (t, none) → prop k undef W.drew)
    (hs : ∀ (i : Nat) (o : Oper), l[i]? = some o → ∀ (e : Ent) (w : World) (A : Act), Facts l.toArray L prop pv e w → e i = none →
      (∀ s j, Region.waitsFor .any l.toArray i j = true → dstOf l.toArray j = some s → e j = some (A.eval (.tmp s)) ∧ pv j (A.eval (.tmp s))) → (∀ s, (List.range l.length).all (fun j => dstOf l.toArray j != some s || Region.waitsFor .any l.toArray j i) = true → A.eval (.tmp s) = a.eval (.tmp s)) →
      o.wp P A w (fun A' w' => ∃ v, A' = A.put o.dst v ∧ pv i v ∧ Leaves l.toArray L prop i w v w') Q)
    (hend : ∀ e w, Facts l.toArray L prop pv e w → (∀ i, i < l.length → ∃ v, e i = some v) → Q .normal (fillTo l.toArray e l.length a) w) : (Code.region id l.toArray true).wp P Q a W := by
  refine wp_region_ent2 N (Facts l.toArray L prop pv) hm hB hN ⟨fun k t hk _ => h0 k t hk, fun k t i hk _ v hv => (by cases hv), fun k u hu => (by cases hu), fun j i hj _ => absurd rfl hj⟩ ?_ hend
  intro i o ho e w A hT hei hwt hsee haway
  have haway2 : ∀ s, (List.range l.length).all (fun j => dstOf l.toArray j != some s || Region.waitsFor .any l.toArray j i) = true → A.eval (.tmp s) = a.eval (.tmp s) := fun s hall => haway s fun j hj => by
    have hlt : j < l.length := by have := dstOf_lt hj; simpa using this
    have h1 := List.all_eq_true.1 hall j (List.mem_range.2 hlt)
    rw [hj] at h1
    have h2 : Region.waitsFor .any l.toArray j i = true := by simpa using h1
    cases hx : e j with
    | none => rfl
    | some u => exact absurd hei (hT.order j i (by rw [hx]; simp) h2)
  refine Oper.wp_mono (fun A' w' h => ?_) (hs i o ho e w A hT hei (fun s j hwj hj => ⟨hsee s j hwj hj, hT.pure j _ (hsee s j hwj hj)⟩) haway2)
  obtain ⟨v, rfl, hp, hl⟩ := h
  exact ⟨v, rfl, hT.step hei hwt hp hl⟩

end Go.Proofs.YtfkejnnbfneieaaGreatDoor

/- A region that draws its order, of operations some of which are guarded: facts of the world and of what was yielded, each until an operation uses it up, hold at the end, whatever the order. What is not wanted yields undef. -/
namespace Go.Proofs.YtfkejnnbfneieaaGreatDoor
open Go.RowKit

theorem all_of_readyG {ops : Array Oper} {md : Region.Mode} {listed : Array Bool} (hz : listed.size = ops.size) (hb : ∀ (i : Nat) (o : Oper), ops[i]? = some o → ∀ e ∈ o.after, Region.binds md e = true → e.on < i) (hr : Region.ready md ops listed = []) :
    ∀ i, i < ops.size → listed.getD i false = true := by
  intro i
  induction i using Nat.strongRecOn with
  | _ i ih =>
    intro hi
    cases hl : listed.getD i false with
    | true => rfl
    | false =>
      have hm : i ∈ Region.ready md ops listed := mem_ready.2 ⟨by simp [hz, hi] at hl ⊢; exact hl, ops[i], Array.getElem?_eq_getElem hi, fun e he hbe => ih e.on (hb i _ (Array.getElem?_eq_getElem hi) e he hbe) (Nat.lt_trans (hb i _ (Array.getElem?_eq_getElem hi) e he hbe) hi)⟩
      rw [hr] at hm
      cases hm
/-- As entB2, with guards: each one waits for the operation whose value it asks. -/
def entB3 (ops : Array Oper) (N : Nat) : Bool :=
  Region.noSelect ops &&
  (List.range ops.size).all (fun i => match ops[i]? with | some o => o.after.all (fun e => !(Region.binds .any e) || decide (e.on < i)) && (match o.guard with | some (g, _) => Region.waitsFor .any ops i g && (dstOf ops g).isSome | none => true) | none => true) &&
  (List.range ops.size).all (fun i => (List.range ops.size).all fun j => i == j || (dstOf ops i).isNone || dstOf ops j != dstOf ops i) &&
  (List.range ops.size).all (fun i => match dstOf ops i with | some d => decide (d < N) | none => true)
structure EntForm3 (ops : Array Oper) (N : Nat) : Prop where
  back : ∀ (i : Nat) (o : Oper), ops[i]? = some o → ∀ e ∈ o.after, Region.binds .any e = true → e.on < i
  guards : ∀ (i : Nat) (o : Oper) (g : Nat) (b : Bool), ops[i]? = some o → o.guard = some (g, b) → Region.waitsFor .any ops i g = true ∧ ∃ d, dstOf ops g = some d
  apart : ∀ i j, j ≠ i → ∀ d, dstOf ops i = some d → dstOf ops j ≠ some d
  dst : ∀ i d, dstOf ops i = some d → d < N
theorem entForm3 {ops : Array Oper} {N : Nat} (h : entB3 ops N = true) : EntForm3 ops N := by
  unfold entB3 at h
  simp only [Bool.and_eq_true, List.all_eq_true, List.mem_range] at h
  obtain ⟨⟨⟨_, h4⟩, h5⟩, h6⟩ := h
  have lt : ∀ {i : Nat} {o : Oper}, ops[i]? = some o → i < ops.size := fun ho => (Array.getElem?_eq_some_iff.1 ho).1
  refine ⟨fun i o ho e he hbe => ?_, fun i o g b ho hg => ?_, fun i j hji d hd hj => ?_, fun i d hd => ?_⟩
  · have := h4 i (lt ho)
    rw [ho] at this
    simp only [Bool.and_eq_true, Array.all_eq_true_iff_forall_mem, Bool.or_eq_true, Bool.not_eq_true', decide_eq_true_eq] at this
    rcases this.1 e he with h | h
    · rw [hbe] at h; cases h
    · exact h
  · have := h4 i (lt ho)
    rw [ho] at this
    dsimp only at this
    rw [hg] at this
    simp only [Bool.and_eq_true] at this
    exact ⟨this.2.1, Option.isSome_iff_exists.1 this.2.2⟩
  · have := h5 i (dstOf_lt hd) j (dstOf_lt hj)
    rw [hd, hj] at this
    simp at this
    exact hji this.symm
  · have := h6 i (dstOf_lt hd)
    rw [hd] at this
    simpa using this
theorem fill_size (ops : Array Oper) (e : Ent) (a : Act) : ∀ n, (fillTo ops e n a).tmps.size = a.tmps.size
  | 0 => rfl
  | n + 1 => by
    rw [fill_succ]
    cases e n <;> dsimp only <;> cases dstOf ops n <;> simp [Act.put, fill_size ops e a n]
theorem yielded_at {ops : Array Oper} {A : Act} {g : Nat} {d : Tmp} {v : Value} {b : Bool} (hd : dstOf ops g = some d) (hlt : d < A.tmps.size) (hv : A.eval (.tmp d) = v) : (yielded ops A.tmps g == some b) = true ↔ v = .bool b := by
  have h1 : A.tmps[d]? = some v := by
    rw [Array.getElem?_eq_getElem hlt]
    rw [← hv]
    simp [Act.eval, hlt]
  have h2 : (((ops[g]?).bind (·.dst)).bind (A.tmps[·]?)) = some v := by
    have : (ops[g]?).bind (·.dst) = some d := hd
    rw [this]
    exact h1
  unfold yielded
  rw [h2]
  cases v <;> simp

theorem wp_region_ent3 {P : Program} {id : Nat} {Q : Exit → Act → World → Prop} {a : Act} {W : World} {l : List Oper} (N : Nat) (T : Ent → World → Prop)
    (hm : P.follows .mixedOrders = true) (hB : entB3 l.toArray N = true) (hN : a.tmps.size = N) (h0 : T (fun _ => none) W.drew)
    (hs : ∀ (i : Nat) (o : Oper), l[i]? = some o → ∀ (e : Ent) (w : World) (A : Act), T e w → e i = none → (∀ j, Region.waitsFor .any l.toArray i j = true → ∃ v, e j = some v) →
      (∀ s j, Region.waitsFor .any l.toArray i j = true → dstOf l.toArray j = some s → e j = some (A.eval (.tmp s))) → (∀ s, (∀ j, dstOf l.toArray j = some s → e j = none) → A.eval (.tmp s) = a.eval (.tmp s)) →
      (∀ g b, o.guard = some (g, b) → e g = some (.bool b)) →
      o.wp P A w (fun A' w' => ∃ v, A' = A.put o.dst v ∧ T (entUpd e i v) w') Q)
    (hu : ∀ (i : Nat) (o : Oper) (g : Nat) (b : Bool), l[i]? = some o → o.guard = some (g, b) → ∀ (e : Ent) (w : World) (u : Value), T e w → e i = none → (∀ j, Region.waitsFor .any l.toArray i j = true → ∃ v, e j = some v) → e g = some u → u ≠ .bool b → T (entUpd e i undef) w)
    (hend : ∀ e w, T e w → (∀ i, i < l.length → ∃ v, e i = some v) → Q .normal (fillTo l.toArray e l.length a) w) : (Code.region id l.toArray true).wp P Q a W := by
  have F := entForm3 hB
  obtain ⟨ops, hops⟩ : ∃ ops : Array Oper, ops = l.toArray := ⟨_, rfl⟩
  have hget : ∀ i : Nat, l[i]? = ops[i]? := fun i => by rw [hops, List.getElem?_toArray]
  have hlen : l.length = ops.size := by rw [hops]; simp
  rw [← hops] at F hend hs hu ⊢
  rw [hlen] at hend
  refine wp_region_any hm (wpAny_inv (fun listed A w => ∃ e, listed.size = ops.size ∧ A = fillTo ops e ops.size a ∧ (∀ i, i < ops.size → ((e i).isSome = listed.getD i false)) ∧ (∀ j, ops.size ≤ j → e j = none) ∧ T e w) ?_ ?_ unlisted (fun listed i hi => unlisted_set (mem_ready.1 hi).1) _ _ _ _ ?_ ?_)
  · rintro listed A w ⟨e, hz, hA, hent, hfar, hT⟩ i hi
    obtain ⟨hun, o, ho, _⟩ := mem_ready.1 hi
    have hlt : i < ops.size := (Array.getElem?_eq_some_iff.1 ho).1
    have hei : e i = none := by
      have := hent i hlt
      rw [getD_tt hun] at this
      cases he : e i with
      | none => rfl
      | some v => rw [he] at this; cases this
    have hdst : dstOf ops i = o.dst := by unfold dstOf; rw [ho]; rfl
    have hput : ∀ v, A.put o.dst v = fillTo ops (entUpd e i v) ops.size a := fun v => by rw [hA, fill_upd ops v a hei (fun j hj => F.apart i j hj) _ hlt, hdst]
    have hwaits : ∀ j, Region.waitsFor .any ops i j = true → ∃ v, e j = some v := fun j hj => by
      have hl := waits_listed hi hj
      have hjl : j < ops.size := by
        rcases Nat.lt_or_ge j ops.size with h | h
        · exact h
        · exfalso
          have : listed[j]? = none := Array.getElem?_eq_none (by omega)
          simp [this] at hl
      have := hent j hjl
      rw [hl] at this
      exact Option.isSome_iff_exists.1 this
    have hsee : ∀ s j, Region.waitsFor .any ops i j = true → dstOf ops j = some s → e j = some (A.eval (.tmp s)) := fun s j hwj hj => by
      obtain ⟨v, hv⟩ := hwaits j hwj
      rw [hA, fill_at (dstOf_lt hj) hj hv hN (F.dst j s hj) (fun k hk => F.apart j k hk)]
      exact hv
    have hsz : A.tmps.size = N := by rw [hA, fill_size, hN]
    unfold wpOp
    rw [ho]
    dsimp only
    by_cases hwant : Region.wanted o (yielded ops A.tmps) = true
    · have hst := hs i o (by rw [hget]; exact ho) e w A hT hei hwaits hsee
        (fun s hno => by
          rw [hA]
          exact fill_away2 ops e s a _ fun j _ hj => hno j hj)
        (fun g b hg => by
          obtain ⟨hw, d, hd⟩ := F.guards i o g b ho hg
          unfold Region.wanted at hwant
          rw [hg] at hwant
          rw [hsee d g hw hd, (yielded_at hd (by rw [hsz]; exact F.dst g d hd) rfl).1 hwant])
      rw [if_pos hwant]
      refine Or.inl (Oper.wp_mono (fun A' w' h => ?_) hst)
      obtain ⟨v, rfl, hT'⟩ := h
      exact ⟨entUpd e i v, by rw [Array.size_setIfInBounds]; exact hz, hput v, inv_ent hz hent hun, fun j hj => by rw [entUpd_other e v (by omega)]; exact hfar j hj, hT'⟩
    · rw [if_neg hwant]
      cases hg : o.guard with
      | none => exact absurd (by unfold Region.wanted; rw [hg]) hwant
      | some p =>
        obtain ⟨g, b⟩ := p
        obtain ⟨hw, d, hd⟩ := F.guards i o g b ho hg
        have hT' := hu i o g b (by rw [hget]; exact ho) hg e w _ hT hei hwaits (hsee d g hw hd) (fun hx => hwant (by
          unfold Region.wanted
          rw [hg]
          exact (yielded_at hd (by rw [hsz]; exact F.dst g d hd) rfl).2 hx))
        exact ⟨entUpd e i undef, by rw [Array.size_setIfInBounds]; exact hz, hput undef, inv_ent hz hent hun, fun j hj => by rw [entUpd_other e undef (by omega)]; exact hfar j hj, hT'⟩
  · rintro listed A w ⟨e, hz, hA, hent, _, hT⟩ hr
    have hall := all_of_readyG hz F.back hr
    rw [hA]
    refine hend e w hT fun i hi => ?_
    have := hent i hi
    rw [hall i hi] at this
    exact Option.isSome_iff_exists.1 this
  · unfold unlisted
    have := List.countP_le_length (p := (· == false)) (l := (Array.replicate ops.size false).toList)
    simpa using this
  · exact ⟨fun _ => none, by simp, (fill_none ops _ a _ fun _ _ => rfl).symm, fun i hi => by simp [hi], fun _ _ => rfl, h0⟩

def guardOf (ops : Array Oper) (i : Nat) : Option (Nat × Bool) := (ops[i]?).bind (·.guard)
/-- The operation is carried out, by what its guard's operation has yielded. -/
def Want (ops : Array Oper) (e : Ent) (i : Nat) : Prop := ∀ g b, guardOf ops i = some (g, b) → e g = some (.bool b)
theorem Want.same {ops : Array Oper} {e : Ent} {i j : Nat} (h : Want ops e i) (hg : (guardOf ops j == none || guardOf ops j == guardOf ops i) = true) : Want ops e j := fun g b hj => by
  rw [hj] at hg
  simp at hg
  exact h g b hg.symm
/-- Facts, of operations of which some are guarded. -/
structure GFacts (ops : Array Oper) (L : List FactKey) (prop : Nat → Value → World → Prop) (pv : Nat → Value → Prop) (e : Ent) (w : World) : Prop where
  base : ∀ (k : Nat) (t : Option Nat), L[k]? = some (t, none) → (∀ j, t = some j → e j = none) → prop k undef w
  of : ∀ (k : Nat) (t : Option Nat) (i : Nat), L[k]? = some (t, some i) → (∀ j, t = some j → e j = none) → ∀ v, e i = some v → Want ops e i → prop k v w
  pure : ∀ k u, e k = some u → Want ops e k → pv k u
  order : ∀ j i, e j ≠ none → Region.waitsFor .any ops j i = true → e i ≠ none
/-- What an operation must leave, as Leaves, where a fact that was used up before need not be kept. -/
structure LeavesIf (ops : Array Oper) (L : List FactKey) (prop : Nat → Value → World → Prop) (e : Ent) (i : Nat) (w : World) (v : Value) (w' : World) : Prop where
  new : ∀ (k : Nat) (t : Option Nat), L[k]? = some (t, some i) → prop k v w'
  old : ∀ (k : Nat) (p : FactKey), L[k]? = some p → p.1 ≠ some i → p.2 ≠ some i → (∀ j, p.2 = some j → Region.waitsFor .any ops j i = false) → (∀ j, p.1 = some j → e j = none) → (∀ j, p.2 = some j → e j ≠ none) → ∀ u, prop k u w → prop k u w'
section
variable {ops : Array Oper} {L : List FactKey} {prop : Nat → Value → World → Prop} {pv : Nat → Value → Prop} {e : Ent} {w w' : World} {i : Nat} {v : Value}
theorem LeavesIf.below (hst : ∀ k u w w', prop k u w → Below w.heap.size w w' → prop k u w') (hb : Below w.heap.size w w') (h : ∀ (k : Nat) (t : Option Nat), L[k]? = some (t, some i) → prop k v w') : LeavesIf ops L prop e i w v w' :=
  ⟨h, fun k _ _ _ _ _ _ _ u hu => hst k u w w' hu hb⟩
theorem LeavesIf.plain (hst : ∀ k u w w', prop k u w → Below w.heap.size w w' → prop k u w') (hb : Below w.heap.size w w') (h : L.all (fun p => p.2 != some i) = true) : LeavesIf ops L prop e i w v w' :=
  .below hst hb (noFact h)
theorem GFacts.step (N : Nat) (F : EntForm3 ops N) (hT : GFacts ops L prop pv e w) (hei : e i = none) (hw : ∀ j, Region.waitsFor .any ops i j = true → ∃ v, e j = some v)
    (hnew : Want ops e i → pv i v ∧ ∀ (k : Nat) (t : Option Nat), L[k]? = some (t, some i) → prop k v w')
    (hold : ∀ (k : Nat) (p : FactKey), L[k]? = some p → p.1 ≠ some i → p.2 ≠ some i → (∀ j, p.2 = some j → Region.waitsFor .any ops j i = false) → (∀ j, p.1 = some j → e j = none) → (∀ j, p.2 = some j → e j ≠ none) → ∀ u, prop k u w → prop k u w') : GFacts ops L prop pv (entUpd e i v) w' := by
  have was : ∀ (t : Option Nat), (∀ j, t = some j → entUpd e i v j = none) → (∀ j, t = some j → e j = none) ∧ t ≠ some i := fun t h => by
    refine ⟨fun j hj => ?_, fun hj => ?_⟩
    · by_cases h2 : j = i
      · rw [h2]; exact hei
      · have := h j hj; rwa [entUpd_other e v h2] at this
    · have := h i hj; rw [entUpd_same] at this; cases this
  have want : ∀ j, entUpd e i v j ≠ none → Want ops (entUpd e i v) j → Want ops e j := fun j hj h g b hg => by
    have := h g b hg
    by_cases hgi : g = i
    · subst hgi
      unfold guardOf at hg
      cases ho : ops[j]? with
      | none => rw [ho] at hg; cases hg
      | some o =>
        rw [ho] at hg
        obtain ⟨hwt, _⟩ := F.guards j o g b ho hg
        by_cases hjg : j = g
        · subst hjg
          obtain ⟨x, hx⟩ := hw j hwt
          rw [hei] at hx; cases hx
        · rw [entUpd_other e v hjg] at hj
          exact absurd hei (hT.order j g hj hwt)
    · rwa [entUpd_other e v hgi] at this
  refine ⟨fun k t hk ht => ?_, fun k t j hk ht u hu hwn => ?_, fun k u hu hwn => ?_, fun j m hj hm => ?_⟩
  · obtain ⟨h1, h2⟩ := was t ht
    exact hold k _ hk h2 (by simp) (fun j hj => by cases hj) h1 (fun j hj => by cases hj) _ (hT.base k t hk h1)
  · obtain ⟨h1, h2⟩ := was t ht
    have hwn2 := want j (by rw [hu]; simp) hwn
    by_cases hji : j = i
    · subst hji
      rw [entUpd_same] at hu
      obtain rfl := Option.some.inj hu
      exact (hnew hwn2).2 k t hk
    · rw [entUpd_other e v hji] at hu
      refine hold k _ hk h2 (by simpa using hji) (fun m hm => ?_) h1 (fun m hm => by cases hm; rw [hu]; simp) _ (hT.of k t j hk h1 u hu hwn2)
      obtain rfl : j = m := Option.some.inj hm
      cases hx : Region.waitsFor .any ops j i with
      | false => rfl
      | true => exact absurd hei (hT.order j i (by rw [hu]; simp) hx)
  · have hwn2 := want k (by rw [hu]; simp) hwn
    by_cases hk : k = i
    · subst hk
      rw [entUpd_same] at hu
      obtain rfl := Option.some.inj hu
      exact (hnew hwn2).1
    · rw [entUpd_other e v hk] at hu
      exact hT.pure k u hu hwn2
  · by_cases hmi : m = i
    · subst hmi; rw [entUpd_same]; simp
    rw [entUpd_other e v hmi]
    by_cases hji : j = i
    · subst hji
      obtain ⟨u, hu⟩ := hw m hm
      rw [hu]; simp
    · rw [entUpd_other e v hji] at hj
      exact hT.order j m hj hm
end

theorem sees_same {ops : Array Oper} {e : Ent} {i : Nat} {A : Act} {pv : Nat → Value → Prop} (hwn : Want ops e i) (hsee : ∀ s j, Region.waitsFor .any ops i j = true → dstOf ops j = some s → e j = some (A.eval (.tmp s)) ∧ (Want ops e j → pv j (A.eval (.tmp s))))
    (s : Tmp) (j : Nat) (h : (Region.waitsFor .any ops i j && (guardOf ops j == none || guardOf ops j == guardOf ops i)) = true) (hd : dstOf ops j = some s) : pv j (A.eval (.tmp s)) := by
  rw [Bool.and_eq_true] at h
  exact (hsee s j h.1 hd).2 (hwn.same h.2)
theorem GFacts.set {ops : Array Oper} {L : List FactKey} {prop : Nat → Value → World → Prop} {pv : Nat → Value → Prop} {e : Ent} {w : World} (h : GFacts ops L prop pv e w) : ∀ (l : List Nat) (j : Nat), e j ≠ none → ((j :: l).zip l).all (fun p => Region.waitsFor .any ops p.1 p.2) = true → ∀ x, (j :: l).getLast? = some x → e x ≠ none
  | [], j, hj, _, x, hx => by simp at hx; subst hx; exact hj
  | m :: l, j, hj, hc, x, hx => by
    rw [List.zip_cons_cons, List.all_cons, Bool.and_eq_true] at hc
    exact h.set l m (h.order j m hj hc.1) hc.2 x (by simpa using hx)
theorem wp_region_guard {P : Program} {id : Nat} {Q : Exit → Act → World → Prop} {a : Act} {W : World} {l : List Oper} (N : Nat) (L : List FactKey) (prop : Nat → Value → World → Prop) (pv : Nat → Value → Prop)
    (hm : P.follows .mixedOrders = true) (hB : entB3 l.toArray N = true) (hN : a.tmps.size = N) (h0 : ∀ (k : Nat) (t : Option Nat), L[k]? = some (t, none) → prop k undef W.drew)
    (hs : ∀ (i : Nat) (o : Oper), l[i]? = some o → ∀ (e : Ent) (w : World) (A : Act), GFacts l.toArray L prop pv e w → e i = none → Want l.toArray e i →
      (∀ s j, Region.waitsFor .any l.toArray i j = true → dstOf l.toArray j = some s → e j = some (A.eval (.tmp s)) ∧ (Want l.toArray e j → pv j (A.eval (.tmp s)))) → (∀ s, (List.range l.length).all (fun j => dstOf l.toArray j != some s || Region.waitsFor .any l.toArray j i) = true → A.eval (.tmp s) = a.eval (.tmp s)) →
      o.wp P A w (fun A' w' => ∃ v, A' = A.put o.dst v ∧ pv i v ∧ LeavesIf l.toArray L prop e i w v w') Q)
    (hend : ∀ e w, GFacts l.toArray L prop pv e w → (∀ i, i < l.length → ∃ v, e i = some v) → Q .normal (fillTo l.toArray e l.length a) w) : (Code.region id l.toArray true).wp P Q a W := by
  have F := entForm3 hB
  refine wp_region_ent3 N (GFacts l.toArray L prop pv) hm hB hN ⟨fun k t hk _ => h0 k t hk, fun k t i hk _ v hv => (by cases hv), fun k u hu => (by cases hu), fun j i hj _ => absurd rfl hj⟩ ?_ ?_ hend
  · intro i o ho e w A hT hei hwt hsee haway hguard
    have ho2 : l.toArray[i]? = some o := by rw [List.getElem?_toArray]; exact ho
    have haway2 : ∀ s, (List.range l.length).all (fun j => dstOf l.toArray j != some s || Region.waitsFor .any l.toArray j i) = true → A.eval (.tmp s) = a.eval (.tmp s) := fun s hall => haway s fun j hj => by
      have hlt : j < l.length := by have := dstOf_lt hj; simpa using this
      have h1 := List.all_eq_true.1 hall j (List.mem_range.2 hlt)
      rw [hj] at h1
      have h2 : Region.waitsFor .any l.toArray j i = true := by simpa using h1
      cases hx : e j with
      | none => rfl
      | some u => exact absurd hei (hT.order j i (by rw [hx]; simp) h2)
    have hwn : Want l.toArray e i := fun g b hg => by
      unfold guardOf at hg
      rw [ho2] at hg
      exact hguard g b hg
    refine Oper.wp_mono (fun A' w' h => ?_) (hs i o ho e w A hT hei hwn (fun s j hwj hj => ⟨hsee s j hwj hj, hT.pure j _ (hsee s j hwj hj)⟩) haway2)
    obtain ⟨v, rfl, hp, hl⟩ := h
    exact ⟨v, rfl, hT.step N F hei hwt (fun _ => ⟨hp, hl.new⟩) hl.old⟩
  · intro i o g b ho hg e w u hT hei hwt hgu hne
    have ho2 : l.toArray[i]? = some o := by rw [List.getElem?_toArray]; exact ho
    refine hT.step N F hei hwt (fun hwn => ?_) (fun k _ _ _ _ _ _ _ u hu => hu)
    have := hwn g b (by unfold guardOf; rw [ho2]; exact hg)
    rw [hgu] at this
    exact absurd (Option.some.inj this) hne

end Go.Proofs.YtfkejnnbfneieaaGreatDoor
