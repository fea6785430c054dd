/- A region that draws its order, of operations without guards: facts of the world and of what was yielded, each until an operation uses it up, hold at the end, whatever the order. -/
import Derived.Test.YtknphmkblcbabaaGreatDoorEnt
namespace Go.Proofs.YtknphmkblcbabaaGreatDoor
open Go.RowKit

/-- As wp_region_ent, where an operation may read a slot that a later one writes. -/
def entB2 (ops : Array Oper) (N : Nat) : Bool :=
  Region.noSelect ops && ops.all (fun o => o.guard.isNone) &&
  (List.range ops.size).all (fun i => match ops[i]? with | some o => o.after.all (fun e => decide (e.on < i)) | none => true) &&
  (List.range ops.size).all (fun i => (List.range ops.size).all fun j => i == j || (dstOf ops i).isNone || dstOf ops j != dstOf ops i) &&
  (List.range ops.size).all (fun i => match dstOf ops i with | some d => decide (d < N) | none => true)
structure EntForm2 (ops : Array Oper) (N : Nat) : Prop where
  guards : ∀ (i : Nat) (o : Oper), ops[i]? = some o → o.guard = none
  back : ∀ (i : Nat) (o : Oper), ops[i]? = some o → ∀ e ∈ o.after, e.on < i
  apart : ∀ i j, j ≠ i → ∀ d, dstOf ops i = some d → dstOf ops j ≠ some d
  dst : ∀ i d, dstOf ops i = some d → d < N
theorem entForm2 {ops : Array Oper} {N : Nat} (h : entB2 ops N = true) : EntForm2 ops N := by
  unfold entB2 at h
  simp only [Bool.and_eq_true, decide_eq_true_eq, List.all_eq_true, List.mem_range, Array.all_eq_true_iff_forall_mem] at h
  obtain ⟨⟨⟨⟨h2, h3⟩, h4⟩, h5⟩, h6⟩ := h
  have lt : ∀ {i : Nat} {o : Oper}, ops[i]? = some o → i < ops.size := fun ho => (Array.getElem?_eq_some_iff.1 ho).1
  refine ⟨fun i o ho => ?_, fun i o ho e he => ?_, fun i j hji d hd hj => ?_, fun i d hd => ?_⟩
  · have := h3 o (Array.mem_of_getElem? ho)
    simpa using this
  · have := h4 i (lt ho)
    rw [ho] at this
    simp only [Array.all_eq_true_iff_forall_mem, decide_eq_true_eq] at this
    exact this e he
  · have := h5 i (dstOf_lt hd) j (dstOf_lt hj)
    rw [hd, hj] at this
    simp at this
    exact hji this.symm
  · have := h6 i (dstOf_lt hd)
    rw [hd] at this
    simpa using this
theorem fill_away2 (ops : Array Oper) (e : Ent) (s : Tmp) (a : Act) : ∀ n, (∀ j, j < n → dstOf ops j = some s → e j = none) → (fillTo ops e n a).eval (.tmp s) = a.eval (.tmp s)
  | 0, _ => rfl
  | n + 1, h => by
    have ih := fill_away2 ops e s a n fun j hj => h j (by omega)
    rw [fill_succ]
    cases hn : e n with
    | none => exact ih
    | some v =>
      dsimp only
      rw [Act.eval_put fun d hd hx => by have := h n (by omega) (by cases hx; exact hd); rw [hn] at this; cases this]
      exact ih
theorem wp_region_ent2 {P : Program} {id : Nat} {Q : Exit → Act → World → Prop} {a : Act} {W : World} {l : List Oper} (N : Nat) (T : Ent → World → Prop)
    (hm : P.follows .mixedOrders = true) (hB : entB2 l.toArray N = true) (hN : a.tmps.size = N) (h0 : T (fun _ => none) W.drew)
    (hs : ∀ (i : Nat) (o : Oper), l[i]? = some o → ∀ (e : Ent) (w : World) (A : Act), T e w → e i = none → (∀ j, Region.waitsFor .any l.toArray i j = true → ∃ v, e j = some v) →
      (∀ s j, Region.waitsFor .any l.toArray i j = true → dstOf l.toArray j = some s → e j = some (A.eval (.tmp s))) → (∀ s, (∀ j, dstOf l.toArray j = some s → e j = none) → A.eval (.tmp s) = a.eval (.tmp s)) →
      o.wp P A w (fun A' w' => ∃ v, A' = A.put o.dst v ∧ T (entUpd e i v) w') Q)
    (hend : ∀ e w, T e w → (∀ i, i < l.length → ∃ v, e i = some v) → Q .normal (fillTo l.toArray e l.length a) w) : (Code.region id l.toArray true).wp P Q a W := by
  have F := entForm2 hB
  obtain ⟨ops, hops⟩ : ∃ ops : Array Oper, ops = l.toArray := ⟨_, rfl⟩
  have hget : ∀ i : Nat, l[i]? = ops[i]? := fun i => by rw [hops, List.getElem?_toArray]
  have hlen : l.length = ops.size := by rw [hops]; simp
  rw [← hops] at F hend hs ⊢
  rw [hlen] at hend
  refine wp_region_any hm (wpAny_inv (fun listed A w => ∃ e, listed.size = ops.size ∧ A = fillTo ops e ops.size a ∧ (∀ i, i < ops.size → ((e i).isSome = listed.getD i false)) ∧ (∀ j, ops.size ≤ j → e j = none) ∧ T e w) ?_ ?_ unlisted (fun listed i hi => unlisted_set (mem_ready.1 hi).1) _ _ _ _ ?_ ?_)
  · rintro listed A w ⟨e, hz, hA, hent, hfar, hT⟩ i hi
    obtain ⟨hun, o, ho, _⟩ := mem_ready.1 hi
    have hlt : i < ops.size := (Array.getElem?_eq_some_iff.1 ho).1
    have hei : e i = none := by
      have := hent i hlt
      rw [getD_tt hun] at this
      cases he : e i with
      | none => rfl
      | some v => rw [he] at this; cases this
    have hdst : dstOf ops i = o.dst := by unfold dstOf; rw [ho]; rfl
    have hwant : Region.wanted o (yielded ops A.tmps) = true := by unfold Region.wanted; rw [F.guards i o ho]
    have hput : ∀ v, A.put o.dst v = fillTo ops (entUpd e i v) ops.size a := fun v => by rw [hA, fill_upd ops v a hei (fun j hj => F.apart i j hj) _ hlt, hdst]
    have hwaits : ∀ j, Region.waitsFor .any ops i j = true → ∃ v, e j = some v := fun j hj => by
      have hl := waits_listed hi hj
      have hjl : j < ops.size := by
        rcases Nat.lt_or_ge j ops.size with h | h
        · exact h
        · exfalso
          have : listed[j]? = none := Array.getElem?_eq_none (by omega)
          simp [this] at hl
      have := hent j hjl
      rw [hl] at this
      exact Option.isSome_iff_exists.1 this
    have hst := hs i o (by rw [hget]; exact ho) e w A hT hei hwaits
      (fun s j hwj hj => by
        obtain ⟨v, hv⟩ := hwaits j hwj
        rw [hA, fill_at (dstOf_lt hj) hj hv hN (F.dst j s hj) (fun k hk => F.apart j k hk)]
        exact hv)
      (fun s hno => by
        rw [hA]
        exact fill_away2 ops e s a _ fun j _ hj => hno j hj)
    unfold wpOp
    rw [ho]
    dsimp only
    rw [if_pos hwant]
    refine Or.inl (Oper.wp_mono (fun A' w' h => ?_) hst)
    obtain ⟨v, rfl, hT'⟩ := h
    exact ⟨entUpd e i v, by rw [Array.size_setIfInBounds]; exact hz, hput v, inv_ent hz hent hun, fun j hj => by rw [entUpd_other e v (by omega)]; exact hfar j hj, hT'⟩
  · rintro listed A w ⟨e, hz, hA, hent, _, hT⟩ hr
    have hall := all_of_ready hz F.back hr
    rw [hA]
    refine hend e w hT fun i hi => ?_
    have := hent i hi
    rw [hall i hi] at this
    exact Option.isSome_iff_exists.1 this
  · unfold unlisted
    have := List.countP_le_length (p := (· == false)) (l := (Array.replicate ops.size false).toList)
    simpa using this
  · exact ⟨fun _ => none, by simp, (fill_none ops _ a _ fun _ _ => rfl).symm, fun i hi => by simp [hi], fun _ _ => rfl, h0⟩

/-- A fact of this kind is: until which operation it holds, if not for ever; of which operation's value it speaks, if of any. -/
abbrev FactKey := Option Nat × Option Nat
structure Facts (ops : Array Oper) (L : List FactKey) (prop : Nat → Value → World → Prop) (pv : Nat → Value → Prop) (e : Ent) (w : World) : Prop where
  base : ∀ (k : Nat) (t : Option Nat), L[k]? = some (t, none) → (∀ j, t = some j → e j = none) → prop k undef w
  of : ∀ (k : Nat) (t : Option Nat) (i : Nat), L[k]? = some (t, some i) → (∀ j, t = some j → e j = none) → ∀ v, e i = some v → prop k v w
  pure : ∀ k u, e k = some u → pv k u
  order : ∀ j i, e j ≠ none → Region.waitsFor .any ops j i = true → e i ≠ none
/-- What an operation must leave. -/
structure Leaves (ops : Array Oper) (L : List FactKey) (prop : Nat → Value → World → Prop) (i : Nat) (w : World) (v : Value) (w' : World) : Prop where
  new : ∀ (k : Nat) (t : Option Nat), L[k]? = some (t, some i) → prop k v w'
  old : ∀ (k : Nat) (p : FactKey), L[k]? = some p → p.1 ≠ some i → p.2 ≠ some i → (∀ j, p.2 = some j → Region.waitsFor .any ops j i = false) → ∀ u, prop k u w → prop k u w'
section
variable {ops : Array Oper} {L : List FactKey} {prop : Nat → Value → World → Prop} {pv : Nat → Value → Prop} {e : Ent} {w w' : World} {i : Nat} {v : Value}
/-- An operation that makes at most new memory. -/
theorem Leaves.below (hst : ∀ k u w w', prop k u w → Below w.heap.size w w' → prop k u w') (hb : Below w.heap.size w w') (h : ∀ (k : Nat) (t : Option Nat), L[k]? = some (t, some i) → prop k v w') : Leaves ops L prop i w v w' :=
  ⟨h, fun k _ _ _ _ _ u hu => hst k u w w' hu hb⟩
theorem noFact (h : L.all (fun p => p.2 != some i) = true) (k : Nat) (t : Option Nat) (hk : L[k]? = some (t, some i)) : prop k v w' := by
  have := List.all_eq_true.1 h _ (List.mem_of_getElem? hk)
  simp at this
/-- One that makes at most new memory, and of whose value no fact speaks. -/
theorem Leaves.plain (hst : ∀ k u w w', prop k u w → Below w.heap.size w w' → prop k u w') (hb : Below w.heap.size w w') (h : L.all (fun p => p.2 != some i) = true) : Leaves ops L prop i w v w' :=
  .below hst hb (noFact h)
theorem Facts.step (hT : Facts ops L prop pv e w) (hei : e i = none) (hw : ∀ j, Region.waitsFor .any ops i j = true → ∃ v, e j = some v) (hp : pv i v) (hl : Leaves ops L prop i w v w') : Facts ops L prop pv (entUpd e i v) w' := by
  have was : ∀ (t : Option Nat), (∀ j, t = some j → entUpd e i v j = none) → (∀ j, t = some j → e j = none) ∧ t ≠ some i := fun t h => by
    refine ⟨fun j hj => ?_, fun hj => ?_⟩
    · by_cases h2 : j = i
      · rw [h2]; exact hei
      · have := h j hj; rwa [entUpd_other e v h2] at this
    · have := h i hj; rw [entUpd_same] at this; cases this
  refine ⟨fun k t hk ht => ?_, fun k t j hk ht u hu => ?_, fun k u hu => ?_, fun j m hj hm => ?_⟩
  · obtain ⟨h1, h2⟩ := was t ht
    exact hl.old k _ hk h2 (by simp) (fun j hj => by cases hj) _ (hT.base k t hk h1)
  · obtain ⟨h1, h2⟩ := was t ht
    by_cases hji : j = i
    · subst hji
      rw [entUpd_same] at hu
      obtain rfl := Option.some.inj hu
      exact hl.new k t hk
    · rw [entUpd_other e v hji] at hu
      refine hl.old k _ hk h2 (by simpa using hji) (fun m hm => ?_) _ (hT.of k t j hk h1 u hu)
      obtain rfl : j = m := Option.some.inj hm
      cases hx : Region.waitsFor .any ops j i with
      | false => rfl
      | true => exact absurd hei (hT.order j i (by rw [hu]; simp) hx)
  · by_cases hk : k = i
    · subst hk
      rw [entUpd_same] at hu
      obtain rfl := Option.some.inj hu
      exact hp
    · rw [entUpd_other e v hk] at hu
      exact hT.pure k u hu
  · by_cases hmi : m = i
    · subst hmi; rw [entUpd_same]; simp
    rw [entUpd_other e v hmi]
    by_cases hji : j = i
    · subst hji
      obtain ⟨u, hu⟩ := hw m hm
      rw [hu]; simp
    · rw [entUpd_other e v hji] at hj
      exact hT.order j m hj hm
end

theorem wp_region_facts {P : Program} {id : Nat} {Q : Exit → Act → World → Prop} {a : Act} {W : World} {l : List Oper} (N : Nat) (L : List FactKey) (prop : Nat → Value → World → Prop) (pv : Nat → Value → Prop)
    (hm : P.follows .mixedOrders = true) (hB : entB2 l.toArray N = true) (hN : a.tmps.size = N) (h0 : ∀ (k : Nat) (t : Option Nat), L[k]? = some (t, none) → prop k undef W.drew)
    (hs : ∀ (i : Nat) (o : Oper), l[i]? = some o → ∀ (e : Ent) (w : World) (A : Act), Facts l.toArray L prop pv e w → e i = none →
      (∀ s j, Region.waitsFor .any l.toArray i j = true → dstOf l.toArray j = some s → e j = some (A.eval (.tmp s)) ∧ pv j (A.eval (.tmp s))) → (∀ s, (List.range l.length).all (fun j => dstOf l.toArray j != some s || Region.waitsFor .any l.toArray j i) = true → A.eval (.tmp s) = a.eval (.tmp s)) →
      o.wp P A w (fun A' w' => ∃ v, A' = A.put o.dst v ∧ pv i v ∧ Leaves l.toArray L prop i w v w') Q)
    (hend : ∀ e w, Facts l.toArray L prop pv e w → (∀ i, i < l.length → ∃ v, e i = some v) → Q .normal (fillTo l.toArray e l.length a) w) : (Code.region id l.toArray true).wp P Q a W := by
  refine wp_region_ent2 N (Facts l.toArray L prop pv) hm hB hN ⟨fun k t hk _ => h0 k t hk, fun k t i hk _ v hv => (by cases hv), fun k u hu => (by cases hu), fun j i hj _ => absurd rfl hj⟩ ?_ hend
  intro i o ho e w A hT hei hwt hsee haway
  have haway2 : ∀ s, (List.range l.length).all (fun j => dstOf l.toArray j != some s || Region.waitsFor .any l.toArray j i) = true → A.eval (.tmp s) = a.eval (.tmp s) := fun s hall => haway s fun j hj => by
    have hlt : j < l.length := by have := dstOf_lt hj; simpa using this
    have h1 := List.all_eq_true.1 hall j (List.mem_range.2 hlt)
    rw [hj] at h1
    have h2 : Region.waitsFor .any l.toArray j i = true := by simpa using h1
    cases hx : e j with
    | none => rfl
    | some u => exact absurd hei (hT.order j i (by rw [hx]; simp) h2)
  refine Oper.wp_mono (fun A' w' h => ?_) (hs i o ho e w A hT hei (fun s j hwj hj => ⟨hsee s j hwj hj, hT.pure j _ (hsee s j hwj hj)⟩) haway2)
  obtain ⟨v, rfl, hp, hl⟩ := h
  exact ⟨v, rfl, hT.step hei hwt hp hl⟩

end Go.Proofs.YtknphmkblcbabaaGreatDoor
