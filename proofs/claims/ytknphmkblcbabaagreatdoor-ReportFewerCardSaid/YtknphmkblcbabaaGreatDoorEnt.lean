/- A region that draws its order, of operations without guards: what holds of all that has been yielded so far, kept by each operation, holds at the end, whatever the order. -/
import Derived.Test.YtknphmkblcbabaaGreatDoorFresh
namespace Go.Proofs.YtknphmkblcbabaaGreatDoor
open Go.RowKit

/-- The form of such a region. -/
def entB (ops : Array Oper) (N : Nat) : Bool :=
  Region.noSelect ops && ops.all (fun o => o.guard.isNone) &&
  (List.range ops.size).all (fun i => match ops[i]? with | some o => o.after.all (fun e => decide (e.on < i)) | none => true) &&
  (List.range ops.size).all (fun i => (List.range ops.size).all fun j => i == j || (dstOf ops i).isNone || dstOf ops j != dstOf ops i) &&
  (List.range ops.size).all (fun i => (match dstOf ops i with | some d => decide (d < N) | none => true) && match ops[i]? with
    | some o => (o.looksAt ops).all fun s => (List.range ops.size).all fun j => dstOf ops j != some s || Region.waitsFor .any ops i j
    | none => false)

structure EntForm (ops : Array Oper) (N : Nat) : Prop where
  guards : ∀ (i : Nat) (o : Oper), ops[i]? = some o → o.guard = none
  back : ∀ (i : Nat) (o : Oper), ops[i]? = some o → ∀ e ∈ o.after, e.on < i
  apart : ∀ i j, j ≠ i → ∀ d, dstOf ops i = some d → dstOf ops j ≠ some d
  dst : ∀ i d, dstOf ops i = some d → d < N
  sees : ∀ (i : Nat) (o : Oper), ops[i]? = some o → ∀ s ∈ o.looksAt ops, ∀ j, dstOf ops j = some s → Region.waitsFor .any ops i j = true
theorem entForm {ops : Array Oper} {N : Nat} (h : entB ops N = true) : EntForm ops N := by
  unfold entB at h
  simp only [Bool.and_eq_true, decide_eq_true_eq, List.all_eq_true, List.mem_range, Array.all_eq_true_iff_forall_mem] at h
  obtain ⟨⟨⟨⟨h2, h3⟩, h4⟩, h5⟩, h6⟩ := h
  have lt : ∀ {i : Nat} {o : Oper}, ops[i]? = some o → i < ops.size := fun ho => (Array.getElem?_eq_some_iff.1 ho).1
  refine ⟨fun i o ho => ?_, fun i o ho e he => ?_, fun i j hji d hd hj => ?_, fun i d hd => ?_, fun i o ho s hs j hj => ?_⟩
  · have := h3 o (Array.mem_of_getElem? ho)
    simpa using this
  · have := h4 i (lt ho)
    rw [ho] at this
    simp only [Array.all_eq_true_iff_forall_mem, decide_eq_true_eq] at this
    exact this e he
  · have := h5 i (dstOf_lt hd) j (dstOf_lt hj)
    rw [hd, hj] at this
    simp at this
    exact hji this.symm
  · have := (h6 i (dstOf_lt hd)).1
    rw [hd] at this
    simpa using this
  · have := (h6 i (lt ho)).2
    rw [ho] at this
    simp only [List.all_eq_true, List.mem_range] at this
    have := this s hs j (dstOf_lt hj)
    rw [hj] at this
    simpa using this

theorem fill_away (ops : Array Oper) (e : Ent) (s : Tmp) (a : Act) : ∀ n, (∀ j, j < n → dstOf ops j ≠ some s) → (fillTo ops e n a).eval (.tmp s) = a.eval (.tmp s)
  | 0, _ => rfl
  | n + 1, h => by
    have ih := fill_away ops e s a n fun j hj => h j (by omega)
    rw [fill_succ]
    cases e n with
    | none => exact ih
    | some v =>
      dsimp only
      rw [Act.eval_put fun d hd hx => h n (by omega) (by cases hx; exact hd)]
      exact ih

theorem wp_region_ent {P : Program} {id : Nat} {Q : Exit → Act → World → Prop} {a : Act} {W : World} {l : List Oper} (N : Nat) (T : Ent → World → Prop)
    (hm : P.follows .mixedOrders = true) (hB : entB l.toArray N = true) (hN : a.tmps.size = N) (h0 : T (fun _ => none) W.drew)
    (hs : ∀ (i : Nat) (o : Oper), l[i]? = some o → ∀ (e : Ent) (w : World) (A : Act), T e w → e i = none → (∀ j, Region.waitsFor .any l.toArray i j = true → ∃ v, e j = some v) →
      (∀ s ∈ o.looksAt l.toArray, ∀ j, dstOf l.toArray j = some s → e j = some (A.eval (.tmp s))) → (∀ s, (List.range l.length).all (fun j => dstOf l.toArray j != some s) = true → A.eval (.tmp s) = a.eval (.tmp s)) →
      o.wp P A w (fun A' w' => ∃ v, A' = A.put o.dst v ∧ T (entUpd e i v) w') Q)
    (hend : ∀ e w, T e w → (∀ i, i < l.length → ∃ v, e i = some v) → Q .normal (fillTo l.toArray e l.length a) w) : (Code.region id l.toArray true).wp P Q a W := by
  have F := entForm hB
  obtain ⟨ops, hops⟩ : ∃ ops : Array Oper, ops = l.toArray := ⟨_, rfl⟩
  have hget : ∀ i : Nat, l[i]? = ops[i]? := fun i => by rw [hops, List.getElem?_toArray]
  have hlen : l.length = ops.size := by rw [hops]; simp
  rw [← hops] at F hend hs ⊢
  rw [hlen] at hend
  refine wp_region_any hm (wpAny_inv (fun listed A w => ∃ e, listed.size = ops.size ∧ A = fillTo ops e ops.size a ∧ (∀ i, i < ops.size → ((e i).isSome = listed.getD i false)) ∧ (∀ j, ops.size ≤ j → e j = none) ∧ T e w) ?_ ?_ unlisted (fun listed i hi => unlisted_set (mem_ready.1 hi).1) _ _ _ _ ?_ ?_)
  · rintro listed A w ⟨e, hz, hA, hent, hfar, hT⟩ i hi
    obtain ⟨hun, o, ho, _⟩ := mem_ready.1 hi
    have hlt : i < ops.size := (Array.getElem?_eq_some_iff.1 ho).1
    have hei : e i = none := by
      have := hent i hlt
      rw [getD_tt hun] at this
      cases he : e i with
      | none => rfl
      | some v => rw [he] at this; cases this
    have hdst : dstOf ops i = o.dst := by unfold dstOf; rw [ho]; rfl
    have hwant : Region.wanted o (yielded ops A.tmps) = true := by unfold Region.wanted; rw [F.guards i o ho]
    have hput : ∀ v, A.put o.dst v = fillTo ops (entUpd e i v) ops.size a := fun v => by rw [hA, fill_upd ops v a hei (fun j hj => F.apart i j hj) _ hlt, hdst]
    have hwaits : ∀ j, Region.waitsFor .any ops i j = true → ∃ v, e j = some v := fun j hj => by
      have hl := waits_listed hi hj
      have hjl : j < ops.size := by
        rcases Nat.lt_or_ge j ops.size with h | h
        · exact h
        · exfalso
          have : listed[j]? = none := Array.getElem?_eq_none (by omega)
          simp [this] at hl
      have := hent j hjl
      rw [hl] at this
      exact Option.isSome_iff_exists.1 this
    have hst := hs i o (by rw [hget]; exact ho) e w A hT hei hwaits
      (fun s hss j hj => by
        obtain ⟨v, hv⟩ := hwaits j (F.sees i o ho s hss j hj)
        rw [hA, fill_at (dstOf_lt hj) hj hv hN (F.dst j s hj) (fun k hk => F.apart j k hk)]
        exact hv)
      (fun s hno => by
        rw [hlen] at hno
        rw [hA]
        refine fill_away ops e s a _ fun j hj => ?_
        have := List.all_eq_true.1 hno j (List.mem_range.2 hj)
        simpa using this)
    unfold wpOp
    rw [ho]
    dsimp only
    rw [if_pos hwant]
    refine Or.inl (Oper.wp_mono (fun A' w' h => ?_) hst)
    obtain ⟨v, rfl, hT'⟩ := h
    exact ⟨entUpd e i v, by rw [Array.size_setIfInBounds]; exact hz, hput v, inv_ent hz hent hun, fun j hj => by rw [entUpd_other e v (by omega)]; exact hfar j hj, hT'⟩
  · rintro listed A w ⟨e, hz, hA, hent, _, hT⟩ hr
    have hall := all_of_ready hz F.back hr
    rw [hA]
    refine hend e w hT fun i hi => ?_
    have := hent i hi
    rw [hall i hi] at this
    exact Option.isSome_iff_exists.1 this
  · unfold unlisted
    have := List.countP_le_length (p := (· == false)) (l := (Array.replicate ops.size false).toList)
    simpa using this
  · exact ⟨fun _ => none, by simp, (fill_none ops _ a _ fun _ _ => rfl).symm, fun i hi => by simp [hi], fun _ _ => rfl, h0⟩

end Go.Proofs.YtknphmkblcbabaaGreatDoor
