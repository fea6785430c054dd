/- A region that draws its order: operations that only read and calls that only make memory, and beside them new cells that are filled from the results: whatever the order, the results are the same, and the new cells lie apart. -/
import Derived.Test.YtfkejnnbfneieaaGreatDoorGrown
import Derived.StillTail
namespace Go.Proofs.YtfkejnnbfneieaaGreatDoor
open Go.RowKit

/-- What each operation of a region has yielded, if it has been carried out. -/
abbrev Ent := Nat → Option Value
def entUpd (e : Ent) (i : Nat) (v : Value) : Ent := fun j => if j = i then some v else e j
def dstOf (ops : Array Oper) (i : Nat) : Option Tmp := (ops[i]?).bind (·.dst)
def fillTo (ops : Array Oper) (e : Ent) : Nat → Act → Act
  | 0, a => a
  | n + 1, a => match e n with
    | some v => (fillTo ops e n a).put (dstOf ops n) v
    | none => fillTo ops e n a
theorem fill_succ (ops : Array Oper) (e : Ent) (n : Nat) (a : Act) : fillTo ops e (n + 1) a = match e n with
    | some v => (fillTo ops e n a).put (dstOf ops n) v
    | none => fillTo ops e n a := rfl
theorem fill_none (ops : Array Oper) (e : Ent) (a : Act) : ∀ n, (∀ i, i < n → e i = none) → fillTo ops e n a = a
  | 0, _ => rfl
  | n + 1, h => by unfold fillTo; rw [h n (by omega)]; exact fill_none ops e a n fun i hi => h i (by omega)
theorem fill_congr (ops : Array Oper) {e e' : Ent} (a : Act) : ∀ n, (∀ i, i < n → e i = e' i) → fillTo ops e n a = fillTo ops e' n a
  | 0, _ => rfl
  | n + 1, h => by unfold fillTo; rw [h n (by omega), fill_congr ops a n fun i hi => h i (by omega)]
theorem fill_upd (ops : Array Oper) {e : Ent} {i : Nat} (v : Value) (a : Act) (hi : e i = none) (hd : ∀ j, j ≠ i → ∀ d, dstOf ops i = some d → dstOf ops j ≠ some d) :
    ∀ n, i < n → fillTo ops (entUpd e i v) n a = (fillTo ops e n a).put (dstOf ops i) v
  | n + 1, h => by
    by_cases hn : i = n
    · subst hn
      have h1 : entUpd e i v i = some v := by unfold entUpd; rw [if_pos rfl]
      have h2 : fillTo ops (entUpd e i v) i a = fillTo ops e i a := fill_congr ops a i fun j hj => by unfold entUpd; rw [if_neg (by omega)]
      unfold fillTo
      rw [h1, hi, h2]
    · have h1 : entUpd e i v n = e n := by unfold entUpd; rw [if_neg (fun x => hn x.symm)]
      have ih := fill_upd ops v a hi hd n (by omega)
      unfold fillTo
      rw [h1, ih]
      cases e n with
      | none => rfl
      | some u => exact Act.put_comm _ _ _ fun d hd' => hd n (fun x => hn x.symm) d hd'
/-- Two fillings read the same at a slot if they agree on the operations that write it. -/
theorem fill_eval (ops : Array Oper) {e e' : Ent} (s : Tmp) : ∀ n n' (a a' : Act), a.eval (.tmp s) = a'.eval (.tmp s) → a.tmps.size = a'.tmps.size → n' ≤ n → (∀ i, i < n' → dstOf ops i = some s → e i = e' i) → (∀ i, n' ≤ i → i < n → dstOf ops i = some s → e i = none) →
    (fillTo ops e n a).eval (.tmp s) = (fillTo ops e' n' a').eval (.tmp s) ∧ (fillTo ops e n a).tmps.size = (fillTo ops e' n' a').tmps.size
  | 0, n', a, a', h0, hz, hle, _, _ => by
    obtain rfl : n' = 0 := by omega
    exact ⟨h0, hz⟩
  | n + 1, n', a, a', h0, hz, hle, h1, h2 => by
    by_cases hn : n' = n + 1
    · subst hn
      have ih := fill_eval ops s n n a a' h0 hz (Nat.le_refl _) (fun i hi => h1 i (by omega)) (fun i h3 h4 => absurd h3 (by omega))
      unfold fillTo
      by_cases hd : dstOf ops n = some s
      · rw [h1 n (by omega) hd]
        cases e' n with
        | none => exact ih
        | some v =>
          dsimp only
          rw [hd]
          refine ⟨?_, by simpa [Act.put] using ih.2⟩
          simp only [Act.eval, Act.put, Array.getD_eq_getD_getElem?, Array.getElem?_setIfInBounds, ih.2]
          by_cases hs : s < (fillTo ops e' n a').tmps.size
          · simp [hs]
          · simp [hs]
      · have key : ∀ (A : Act) (v : Value), (A.put (dstOf ops n) v).eval (.tmp s) = A.eval (.tmp s) := fun A v => Act.eval_put fun d hd' hx => hd (by cases hx; exact hd')
        have sz : ∀ (A : Act) (v : Value), (A.put (dstOf ops n) v).tmps.size = A.tmps.size := fun A v => by cases dstOf ops n <;> simp [Act.put]
        constructor
        · cases e n <;> cases e' n <;> simp only [key, ih.1]
        · cases e n <;> cases e' n <;> simp only [sz, ih.2]
    · have ih := fill_eval ops s n n' a a' h0 hz (by omega) h1 (fun i h3 h4 => h2 i h3 (by omega))
      have sz : ∀ (A : Act) (v : Value), (A.put (dstOf ops n) v).tmps.size = A.tmps.size := fun A v => by cases dstOf ops n <;> simp [Act.put]
      rw [fill_succ]
      by_cases hd : dstOf ops n = some s
      · rw [h2 n (by omega) (by omega) hd]; exact ih
      · have key : ∀ (A : Act) (v : Value), (A.put (dstOf ops n) v).eval (.tmp s) = A.eval (.tmp s) := fun A v => Act.eval_put fun d hd' hx => hd (by cases hx; exact hd')
        constructor
        · cases e n <;> simp only [key, ih.1]
        · cases e n <;> simp only [sz, ih.2]

/-- The class of a region's worlds is kept by each operation that may come next: what is asked is asked of each operation alone. -/
theorem wpAny_inv {P : Program} {ops : Array Oper} {md : Region.Mode} {Q : Exit → Act → World → Prop} (J : Array Bool → Act → World → Prop)
    (hs : ∀ listed a w, J listed a w → ∀ i ∈ Region.ready md ops listed, wpOp P ops Q i (J (listed.setIfInBounds i true)) a w)
    (hend : ∀ listed a w, J listed a w → Region.ready md ops listed = [] → Q .normal a w)
    (c : Array Bool → Nat) (hc : ∀ listed i, i ∈ Region.ready md ops listed → c (listed.setIfInBounds i true) + 1 = c listed) :
    ∀ (fuel : Nat) (listed : Array Bool) (a : Act) (w : World), c listed ≤ fuel → J listed a w → wpAny P md ops Q fuel listed a w
  | 0, listed, a, w, hf, h => by
    have hr : Region.ready md ops listed = [] := by
      cases hr : Region.ready md ops listed with
      | nil => rfl
      | cons i l => have := hc listed i (by rw [hr]; simp); omega
    exact ⟨hr, hend _ _ _ h hr⟩
  | fuel + 1, listed, a, w, hf, h =>
    ⟨fun hr => hend _ _ _ h hr, fun i hi => wpOp_mono (fun a' w' h' => wpAny_inv J hs hend c hc fuel _ a' w' (by have := hc listed i hi; omega) h') (hs _ _ _ h i hi)⟩

theorem getD_lt {l : Array Bool} {i : Nat} (h : l.getD i true = false) : i < l.size := by
  rcases Nat.lt_or_ge i l.size with h' | h'
  · exact h'
  · simp [Array.getElem?_eq_none h'] at h
theorem getD_tt {l : Array Bool} {i : Nat} (h : l.getD i true = false) : l.getD i false = false := by
  have := getD_lt h
  simp [this] at h ⊢; exact h
def unlisted (l : Array Bool) : Nat := l.toList.countP (· == false)
theorem unlisted_set {l : Array Bool} {i : Nat} (h : l.getD i true = false) : unlisted (l.setIfInBounds i true) + 1 = unlisted l := by
  have hlt := getD_lt h
  have hf : l.toList[i]'(by simpa using hlt) = false := by simpa [hlt] using h
  unfold unlisted
  rw [Array.toList_setIfInBounds, List.countP_set (by simpa using hlt), hf]
  have : 0 < l.toList.countP (· == false) := List.countP_pos_iff.2 ⟨false, by rw [← hf]; exact List.getElem_mem _, rfl⟩
  have e1 : ((false == false) = true) = True := by simp
  have e2 : ((true == false) = true) = False := by simp
  simp only [e1, e2, if_true, if_false]
  omega
theorem all_of_ready {ops : Array Oper} {md : Region.Mode} {listed : Array Bool} (hz : listed.size = ops.size) (hb : ∀ (i : Nat) (o : Oper), ops[i]? = some o → ∀ e ∈ o.after, e.on < i) (hr : Region.ready md ops listed = []) :
    ∀ i, i < ops.size → listed.getD i false = true := by
  intro i
  induction i using Nat.strongRecOn with
  | _ i ih =>
    intro hi
    cases hl : listed.getD i false with
    | true => rfl
    | false =>
      have hm : i ∈ Region.ready md ops listed := mem_ready.2 ⟨by simp [hz, hi] at hl ⊢; exact hl, ops[i], Array.getElem?_eq_getElem hi, fun e he _ => ih e.on (hb i _ (Array.getElem?_eq_getElem hi) e he) (Nat.lt_trans (hb i _ (Array.getElem?_eq_getElem hi) e he) hi)⟩
      rw [hr] at hm
      cases hm

/-- The values that a walk of the text's order finds. -/
theorem quiet_values {P : Program} {ops : Array Oper} {C : World → Prop} {Q : Act → Prop} (a : Act) (n : Nat) :
    ∀ (l : List Oper) (k : Nat) (v0 : Nat → Value), k + l.length = n → (∀ j, j < l.length → l[j]? = ops[k + j]?) → wpQuiet P ops C Q l (fillTo ops (fun i => some (v0 i)) k a) →
      ∃ vs : Nat → Value, (∀ i, i < k → vs i = v0 i) ∧ (∀ i o, k ≤ i → i < n → ops[i]? = some o → YieldsIn P ops C o (vs i) (fillTo ops (fun i => some (vs i)) i a)) ∧ Q (fillTo ops (fun i => some (vs i)) n a)
  | [], k, v0, hk, _, h => by
    obtain rfl : k = n := by simpa using hk
    exact ⟨v0, fun _ _ => rfl, fun i o h1 h2 _ => by omega, h⟩
  | o :: l, k, v0, hk, hl, h => by
    have h0 : ops[k]? = some o := by have := hl 0 (by simp); simpa using this.symm
    have hst : qOp P ops C k (wpQuiet P ops C Q l) (fillTo ops (fun i => some (v0 i)) k a) := by unfold qOp; simp only [h0]; exact h
    obtain ⟨v, hy, hK⟩ := yieldsIn_of_qOp h0 hst
    have hd : dstOf ops k = o.dst := by unfold dstOf; rw [h0]; rfl
    have e1 : fillTo ops (fun i => some (if i = k then v else v0 i)) k a = fillTo ops (fun i => some (v0 i)) k a := fill_congr ops a k fun i hi => by rw [if_neg (by omega)]
    have e2 : fillTo ops (fun i => some (if i = k then v else v0 i)) (k + 1) a = (fillTo ops (fun i => some (v0 i)) k a).put o.dst v := by
      rw [fill_succ]; dsimp only; rw [if_pos rfl, e1, hd]
    rw [← e2] at hK
    obtain ⟨vs, g1, g2, g3⟩ := quiet_values a n l (k + 1) (fun i => if i = k then v else v0 i) (by simp only [List.length_cons] at hk; omega)
      (fun j hj => by have := hl (j + 1) (by simp; omega); rw [List.getElem?_cons_succ] at this; rw [this]; congr 1; omega) hK
    refine ⟨vs, fun i hi => by rw [g1 i (by omega), if_neg (by omega)], fun i o' h1 h2 h3 => ?_, g3⟩
    by_cases hik : i = k
    · subst hik
      obtain rfl : o = o' := Option.some.inj (h0.symm.trans h3)
      have e3 : fillTo ops (fun i => some (vs i)) i a = fillTo ops (fun i => some (v0 i)) i a := fill_congr ops a i fun j hj => by rw [g1 j (by omega), if_neg (by omega)]
      rw [e3, g1 i (by omega), if_pos rfl]
      exact hy
    · exact g2 i o' (by omega) h2 h3

/-- The form of such a region: n operations that only read or call, then m new cells, then m stores, one into each. -/
def freshB (ops : Array Oper) (n m N : Nat) : Bool :=
  decide (ops.size = n + m + m) && Region.noSelect ops && ops.all (fun o => o.guard.isNone) &&
  (List.range ops.size).all (fun i => match ops[i]? with | some o => o.after.all (fun e => decide (e.on < i)) | none => true) &&
  (List.range ops.size).all (fun i => (List.range ops.size).all fun j => i == j || (dstOf ops i).isNone || dstOf ops j != dstOf ops i) &&
  (List.range n).all (fun i => (match dstOf ops i with | some d => decide (d < N) | none => false) && match ops[i]? with
    | some o => (o.looksAt ops).all fun s => (List.range ops.size).all fun j => dstOf ops j != some s || (decide (j < i) && Region.waitsFor .any ops i j)
    | none => false) &&
  (List.range m).all (fun k => (match dstOf ops (n + k) with | some d => decide (d < N) | none => false) && (dstOf ops (n + m + k)).isNone && Region.waitsFor .any ops (n + m + k) (n + k) && match ops[n + m + k]? with
    | some o => (o.looksAt ops).all fun s => dstOf ops (n + k) == some s || (List.range ops.size).all fun j => dstOf ops j != some s || (decide (j < n) && Region.waitsFor .any ops (n + m + k) j)
    | none => false)

structure FreshForm (ops : Array Oper) (n m N : Nat) : Prop where
  size : ops.size = n + m + m
  noSelect : Region.noSelect ops = true
  guards : ∀ (i : Nat) (o : Oper), ops[i]? = some o → o.guard = none
  back : ∀ (i : Nat) (o : Oper), ops[i]? = some o → ∀ e ∈ o.after, e.on < i
  apart : ∀ i j, j ≠ i → ∀ d, dstOf ops i = some d → dstOf ops j ≠ some d
  quietDst : ∀ i, i < n → ∃ d, dstOf ops i = some d ∧ d < N
  quietSees : ∀ (i : Nat) (o : Oper), i < n → ops[i]? = some o → ∀ s ∈ o.looksAt ops, ∀ j, dstOf ops j = some s → j < i ∧ Region.waitsFor .any ops i j = true
  cellDst : ∀ k, k < m → ∃ d, dstOf ops (n + k) = some d ∧ d < N
  storeDst : ∀ k, k < m → dstOf ops (n + m + k) = none
  storeWaits : ∀ k, k < m → Region.waitsFor .any ops (n + m + k) (n + k) = true
  storeSees : ∀ (k : Nat) (o : Oper), k < m → ops[n + m + k]? = some o → ∀ s ∈ o.looksAt ops, dstOf ops (n + k) ≠ some s → ∀ j, dstOf ops j = some s → j < n ∧ Region.waitsFor .any ops (n + m + k) j = true
theorem dstOf_lt {ops : Array Oper} {i : Nat} {d : Tmp} (h : dstOf ops i = some d) : i < ops.size := by
  unfold dstOf at h
  cases ho : ops[i]? with
  | none => rw [ho] at h; cases h
  | some o => exact (Array.getElem?_eq_some_iff.1 ho).1
theorem freshForm {ops : Array Oper} {n m N : Nat} (h : freshB ops n m N = true) : FreshForm ops n m N := by
  unfold freshB at h
  simp only [Bool.and_eq_true, decide_eq_true_eq, List.all_eq_true, List.mem_range, Array.all_eq_true_iff_forall_mem] at h
  obtain ⟨⟨⟨⟨⟨⟨h1, h2⟩, h3⟩, h4⟩, h5⟩, h6⟩, h7⟩ := h
  have lt : ∀ {i : Nat} {o : Oper}, ops[i]? = some o → i < ops.size := fun ho => (Array.getElem?_eq_some_iff.1 ho).1
  refine ⟨h1, h2, ?_, ?_, ?_, ?_, ?_, ?_, ?_, ?_, ?_⟩
  · intro i o ho
    have := h3 o (Array.mem_of_getElem? ho)
    simpa using this
  · intro i o ho e he
    have := h4 i (lt ho)
    simp only [ho, Array.all_eq_true_iff_forall_mem, decide_eq_true_eq] at this
    exact this e he
  · intro i j hij d hd hd'
    have := h5 i (dstOf_lt hd) j (dstOf_lt hd')
    simp [hd, hd'] at this
    exact hij this.symm
  · intro i hi
    have := (h6 i hi).1
    cases hd : dstOf ops i with
    | none => simp [hd] at this
    | some d => exact ⟨d, rfl, by simpa [hd] using this⟩
  · intro i o hi ho s hs j hj
    have := (h6 i hi).2
    simp only [ho, List.all_eq_true, List.mem_range] at this
    have := this s hs j (dstOf_lt hj)
    simp [hj] at this
    exact this
  · intro k hk
    have := (h7 k hk).1.1.1
    cases hd : dstOf ops (n + k) with
    | none => simp [hd] at this
    | some d => exact ⟨d, rfl, by simpa [hd] using this⟩
  · intro k hk
    simpa using (h7 k hk).1.1.2
  · intro k hk
    exact (h7 k hk).1.2
  · intro k o hk ho s hs hns j hj
    have := (h7 k hk).2
    simp only [ho, List.all_eq_true, List.mem_range, Bool.or_eq_true] at this
    have := (this s hs).resolve_left (by simpa using hns)
    have := this j (dstOf_lt hj)
    simp [hj] at this
    exact this
/-- An operation that waits for another one comes up behind it. -/
theorem waits_listed {ops : Array Oper} {listed : Array Bool} {i j : Nat} (hr : i ∈ Region.ready .any ops listed) (hw : Region.waitsFor .any ops i j = true) : listed.getD j false = true := by
  obtain ⟨o, ho, e, he, hb, rfl⟩ := Region.waitsFor_spec hw
  obtain ⟨_, o', ho', hall⟩ := mem_ready.1 hr
  obtain rfl : o = o' := Option.some.inj (ho.symm.trans ho')
  exact hall e he hb
/-- The value that an operation has put into its slot. -/
theorem fill_at {ops : Array Oper} {e : Ent} {a : Act} {n i N : Nat} {d : Tmp} {v : Value} (hi : i < n) (hd : dstOf ops i = some d) (he : e i = some v) (hN : a.tmps.size = N) (hlt : d < N)
    (hap : ∀ j, j ≠ i → ∀ d, dstOf ops i = some d → dstOf ops j ≠ some d) : (fillTo ops e n a).eval (.tmp d) = v := by
  have h0 : ∀ (e' : Ent) k, (fillTo ops e' k a).tmps.size = a.tmps.size := by
    intro e' k
    induction k with
    | zero => rfl
    | succ k ih => rw [fill_succ]; cases e' k <;> dsimp only <;> cases dstOf ops k <;> simp [Act.put, ih]
  have h1 : e = entUpd (fun j => if j = i then none else e j) i v := by
    funext j
    unfold entUpd
    by_cases hj : j = i
    · rw [if_pos hj, hj, he]
    · rw [if_neg hj]; dsimp only; rw [if_neg hj]
  rw [h1, fill_upd ops v a (by simp) hap n hi, hd]
  have h2 := h0 (fun j => if j = i then none else e j) n
  simp [Act.eval, Act.put, h2, hN, hlt]

/-- The new cells, one after the other, in their slots. -/
def ptrs (ops : Array Oper) (n : Nat) (b : Nat → Nat) : Nat → Act → Act
  | 0, a => a
  | k + 1, a => (ptrs ops n b k a).put (dstOf ops (n + k)) (.pointer (some ⟨b k, 0, none⟩))
/-- What the new cells hold. -/
structure Cells (W w : World) (m : Nat) (z : Nat → Nat) (c : Nat → Nat → Option Value) (b : Nat → Nat) : Prop where
  below : Below W.heap.size W w
  high : ∀ k, k < m → W.heap.size ≤ b k
  low : ∀ k, k < m → b k < w.heap.size
  cell : ∀ k, k < m → ∀ i, i < z k → w.cell? ⟨b k, i, none⟩ = c k i ∧ w.frozen? ⟨b k, i, none⟩ = false
  other : ∀ k k', k < m → k' < m → k ≠ k' → b k ≠ b k'

structure FreshInv (ops : Array Oper) (n m : Nat) (W : World) (V : Nat → Value) (zs cs : Nat → Array Value) (a0 : Act) (listed : Array Bool) (A : Act) (w : World) (e : Ent) (b : Nat → Nat) : Prop where
  size : listed.size = ops.size
  act : A = fillTo ops e ops.size a0
  ent : ∀ i, i < ops.size → ((e i).isSome = listed.getD i false)
  far : ∀ i, ops.size ≤ i → e i = none
  vals : ∀ i, i < n → e i = none ∨ e i = some (V i)
  below : Below W.heap.size W w
  ptr : ∀ k, k < m → e (n + k) ≠ none → e (n + k) = some (.pointer (some ⟨b k, 0, none⟩)) ∧ W.heap.size ≤ b k ∧ b k < w.heap.size ∧
    ∀ i, i < (zs k).size → w.cell? ⟨b k, i, none⟩ = (if e (n + m + k) = none then zs k else cs k)[i]? ∧ w.frozen? ⟨b k, i, none⟩ = false
  other : ∀ k k', k < m → k' < m → e (n + k) ≠ none → e (n + k') ≠ none → k ≠ k' → b k ≠ b k'
  sto : ∀ k, k < m → e (n + m + k) ≠ none → e (n + k) ≠ none

theorem entUpd_same (e : Ent) (i : Nat) (v : Value) : entUpd e i v i = some v := by unfold entUpd; rw [if_pos rfl]
theorem entUpd_other (e : Ent) {i j : Nat} (v : Value) (h : j ≠ i) : entUpd e i v j = e j := by unfold entUpd; rw [if_neg h]
theorem ent_none {ops : Array Oper} {n m : Nat} {W : World} {V : Nat → Value} {zs cs : Nat → Array Value} {a0 : Act} {listed : Array Bool} {A : Act} {w : World} {e : Ent} {b : Nat → Nat}
    (h : FreshInv ops n m W V zs cs a0 listed A w e b) {i : Nat} (hl : listed.getD i true = false) : e i = none := by
  have hi := getD_lt hl
  have := h.ent i (by rw [← h.size]; exact hi)
  rw [getD_tt hl] at this
  cases he : e i with
  | none => rfl
  | some v => rw [he] at this; cases this
theorem ent_some {ops : Array Oper} {n m : Nat} {W : World} {V : Nat → Value} {zs cs : Nat → Array Value} {a0 : Act} {listed : Array Bool} {A : Act} {w : World} {e : Ent} {b : Nat → Nat}
    (h : FreshInv ops n m W V zs cs a0 listed A w e b) {i : Nat} (hl : listed.getD i false = true) (hi : i < ops.size) : e i ≠ none := by
  have := h.ent i hi
  rw [hl] at this
  intro he
  rw [he] at this
  cases this
/-- The part of the invariant that does not speak of the world, one operation later. -/
theorem inv_ent {ops : Array Oper} {listed : Array Bool} {e : Ent} {i : Nat} {v : Value} (hz : listed.size = ops.size) (hent : ∀ i, i < ops.size → ((e i).isSome = listed.getD i false)) (hl : listed.getD i true = false) :
    ∀ j, j < ops.size → ((entUpd e i v j).isSome = (listed.setIfInBounds i true).getD j false) := by
  intro j hj
  by_cases hji : j = i
  · subst hji
    rw [entUpd_same]
    simp [hz, hj]
  · rw [entUpd_other e v hji, getD_set_ne false (fun x => hji x.symm)]
    exact hent j hj

theorem wp_region_fresh {P : Program} {id : Nat} {Q : Exit → Act → World → Prop} {a : Act} {W : World} {l : List Oper} (n m N : Nat) (zs cs : Nat → Array Value) (Af : Act)
    (hm : P.follows .mixedOrders = true) (hB : freshB l.toArray n m N = true) (hN : a.tmps.size = N)
    (hq : ∀ w0, Below W.heap.size W w0 → wpQuiet P l.toArray (fun w' => ∃ x : Grown w0, w' = x.w) (fun a' => a' = Af) (l.take n) a)
    (hal : ∀ k, k < m → ∀ o, l[n + k]? = some o → ∃ T, ∀ ρ w', (execOp ρ o).run P w' = .ok (.value (.pointer (some ⟨w'.heap.size, 0, none⟩))) (w'.alloc (.cells (zs k) T)))
    (hst : ∀ k, k < m → ∀ o, l[n + m + k]? = some o → ∀ (A : Act) (b : Nat) w', (∀ s, dstOf l.toArray (n + k) = some s → A.eval (.tmp s) = .pointer (some ⟨b, 0, none⟩)) →
      (∀ s, s ∈ o.looksAt l.toArray → dstOf l.toArray (n + k) ≠ some s → A.eval (.tmp s) = Af.eval (.tmp s)) → W.heap.size ≤ b →
      (∀ i, i < (zs k).size → w'.cell? ⟨b, i, none⟩ = (zs k)[i]? ∧ w'.frozen? ⟨b, i, none⟩ = false) →
      ∃ w'', (execOp A.eval o).run P w' = .ok .skip w'' ∧ w''.heap.size = w'.heap.size ∧ Below W.heap.size w' w'' ∧ (∀ i, i < (zs k).size → w''.cell? ⟨b, i, none⟩ = (cs k)[i]? ∧ w''.frozen? ⟨b, i, none⟩ = false) ∧
        (∀ c i, c ≠ b → w''.cell? ⟨c, i, none⟩ = w'.cell? ⟨c, i, none⟩ ∧ w''.frozen? ⟨c, i, none⟩ = w'.frozen? ⟨c, i, none⟩))
    (hend : ∀ b w', Cells W w' m (fun k => (zs k).size) (fun k i => (cs k)[i]?) b → Q .normal (ptrs l.toArray n b m Af) w') : (Code.region id l.toArray true).wp P Q a W := by
  have F := freshForm hB
  obtain ⟨ops, hops⟩ : ∃ ops : Array Oper, ops = l.toArray := ⟨_, rfl⟩
  have hget : ∀ i : Nat, l[i]? = ops[i]? := fun i => by rw [hops, List.getElem?_toArray]
  rw [← hops] at F hq hend hst ⊢
  have hsz : ops.size = n + m + m := F.size
  -- the values of the operations that only read or call
  have hvals : ∀ w0, Below W.heap.size W w0 → ∃ vs : Nat → Value, (∀ i o, i < n → ops[i]? = some o → YieldsIn P ops (fun w' => ∃ x : Grown w0, w' = x.w) o (vs i) (fillTo ops (fun i => some (vs i)) i a)) ∧ fillTo ops (fun i => some (vs i)) n a = Af := by
    intro w0 h0
    have hlen : (l.take n).length = n := by rw [List.length_take]; have : l.length = ops.size := by rw [hops]; simp
                                            omega
    obtain ⟨vs, _, g2, g3⟩ := quiet_values a n (l.take n) 0 (fun _ => undef) (by omega) (fun j hj => by rw [List.getElem?_take, if_pos (by omega), Nat.zero_add]; exact hget j) (hq w0 h0)
    exact ⟨vs, fun i o hi ho => g2 i o (Nat.zero_le _) hi ho, g3⟩
  have hV : ∀ vs : Nat → Value, fillTo ops (fun i => some (vs i)) n a = Af → ∀ i, i < n → ∃ d, dstOf ops i = some d ∧ vs i = Af.eval (.tmp d) := by
    intro vs hvs i hi
    obtain ⟨d, hd, hlt⟩ := F.quietDst i hi
    refine ⟨d, hd, ?_⟩
    rw [← hvs]
    exact (fill_at (e := fun i => some (vs i)) hi hd rfl hN hlt (fun j hj => F.apart i j hj)).symm
  let V : Nat → Value := fun i => match dstOf ops i with | some d => Af.eval (.tmp d) | none => undef
  have hVV : ∀ vs : Nat → Value, fillTo ops (fun i => some (vs i)) n a = Af → ∀ i, i < n → vs i = V i := by
    intro vs hvs i hi
    obtain ⟨d, hd, hv⟩ := hV vs hvs i hi
    show vs i = (match dstOf ops i with | some d => Af.eval (.tmp d) | none => undef)
    rw [hd]; exact hv
  refine wp_region_any hm (wpAny_inv (fun listed A w => ∃ e b, FreshInv ops n m W V zs cs a listed A w e b) ?_ ?_ unlisted (fun listed i hi => unlisted_set (mem_ready.1 hi).1) _ _ _ _ ?_ ?_)
  · -- one operation
    rintro listed A w ⟨e, b, I⟩ i hi
    obtain ⟨hun, o, ho, _⟩ := mem_ready.1 hi
    have hlt : i < ops.size := (Array.getElem?_eq_some_iff.1 ho).1
    have hei := ent_none I hun
    have hdst : dstOf ops i = o.dst := by unfold dstOf; rw [ho]; rfl
    have hwant : ∀ A' : Act, Region.wanted o (yielded ops A'.tmps) = true := fun A' => by unfold Region.wanted; rw [F.guards i o ho]
    have hput : ∀ v, A.put o.dst v = fillTo ops (entUpd e i v) ops.size a := fun v => by rw [I.act, fill_upd ops v a hei (fun j hj => F.apart i j hj) _ hlt, hdst]
    have hfar : ∀ v j, ops.size ≤ j → entUpd e i v j = none := fun v j hj => by rw [entUpd_other e v (by omega)]; exact I.far j hj
    by_cases h1 : i < n
    · obtain ⟨vs, g1, g2⟩ := hvals w I.below
      have hy := g1 i o h1 ho
      have hsame : ∀ s ∈ o.looksAt ops, A.eval (.tmp s) = (fillTo ops (fun i => some (vs i)) i a).eval (.tmp s) := by
        intro s hs
        rw [I.act]
        refine (fill_eval ops s ops.size i a a rfl rfl (by omega) ?_ ?_).1
        · intro j hj hds
          have hw := (F.quietSees i o h1 ho s hs j hds).2
          have hl := waits_listed hi hw
          rcases I.vals j (by omega) with h | h
          · exact absurd h (ent_some I hl (by omega))
          · rw [h, hVV vs g2 j (by omega)]
        · intro j hj _ hds
          have := (F.quietSees i o h1 ho s hs j hds).1
          omega
      have hexec : execOp A.eval o = execOp (fillTo ops (fun i => some (vs i)) i a).eval o := by
        refine execOp_congr o (fun cs b => Region.noSelect_spec F.noSelect i o cs b ho) fun x hx => ?_
        cases x with
        | tmp s => exact hsame s (List.mem_append_left _ (List.mem_filterMap.2 ⟨.tmp s, by simpa using hx, rfl⟩))
        | _ => rfl
      have hy' : YieldsIn P ops (fun w' => ∃ x : Grown w, w' = x.w) o (vs i) A := hy.of_same hexec (by rw [hwant, hwant])
      refine wpOp_of_qOp (C := fun w' => ∃ x : Grown w, w' = x.w) ⟨⟨w, Below.refl _ _⟩, rfl⟩ (fun a' w' hC (hK : a' = A.put o.dst (vs i)) => ?_) (hy'.qOp ho rfl)
      obtain ⟨x, rfl⟩ := hC
      have hb := x.below
      refine ⟨entUpd e i (V i), b, by rw [Array.size_setIfInBounds]; exact I.size, ?_, inv_ent I.size I.ent hun, hfar _, ?_, I.below.trans (hb.mono I.below.size), ?_, ?_, ?_⟩
      · rw [hK, hVV vs g2 i h1, hput]
      · intro j hj
        by_cases hji : j = i
        · subst hji; rw [entUpd_same]; exact Or.inr rfl
        · rw [entUpd_other e _ hji]; exact I.vals j hj
      · intro k hk
        rw [entUpd_other e _ (by omega), entUpd_other e _ (by omega)]
        intro hne
        obtain ⟨p1, p2, p3, p4⟩ := I.ptr k hk hne
        refine ⟨p1, p2, Nat.lt_of_lt_of_le p3 hb.size, fun j hj => ?_⟩
        rw [hb.cell (p := ⟨b k, j, none⟩) p3, hb.frozen (p := ⟨b k, j, none⟩) p3]
        exact p4 j hj
      · intro k k' hk hk'
        rw [entUpd_other e _ (by omega), entUpd_other e _ (by omega)]
        exact I.other k k' hk hk'
      · intro k hk
        rw [entUpd_other e _ (by omega), entUpd_other e _ (by omega)]
        exact I.sto k hk
    · by_cases h2 : i < n + m
      · obtain ⟨k, rfl⟩ : ∃ k, i = n + k := ⟨i - n, by omega⟩
        have hk : k < m := by omega
        obtain ⟨T, hT⟩ := hal k hk o (by rw [hget]; exact ho)
        have hes : e (n + m + k) = none := by
          cases he : e (n + m + k) with
          | none => rfl
          | some v => exact absurd hei (I.sto k hk (by rw [he]; simp))
        unfold wpOp
        rw [ho]
        dsimp only
        rw [if_pos (hwant A)]
        refine Or.inl ?_
        unfold Oper.wp
        rw [hT A.eval w]
        show ∃ e b, _
        have hcell : ∀ c j, c < w.heap.size → (w.alloc (.cells (zs k) T)).cell? ⟨c, j, none⟩ = w.cell? ⟨c, j, none⟩ := fun c j hc => by rw [cell_alloc, if_neg (by omega)]
        have hfroz : ∀ c j, c < w.heap.size → (w.alloc (.cells (zs k) T)).frozen? ⟨c, j, none⟩ = w.frozen? ⟨c, j, none⟩ := fun c j hc => by rw [frozen_alloc, if_neg (by omega)]
        refine ⟨entUpd e (n + k) (.pointer (some ⟨w.heap.size, 0, none⟩)), fun j => if j = k then w.heap.size else b j, by rw [Array.size_setIfInBounds]; exact I.size, hput _, inv_ent I.size I.ent hun, hfar _, ?_, I.below.alloc I.below.size _, ?_, ?_, ?_⟩
        · intro j hj
          rw [entUpd_other e _ (by omega)]
          exact I.vals j hj
        · intro j hj
          by_cases hjk : j = k
          · subst hjk
            intro _
            rw [entUpd_same, entUpd_other e _ (by omega), if_pos rfl, hes]
            refine ⟨rfl, I.below.size, by rw [size_alloc]; omega, fun i hi => ?_⟩
            rw [cell_alloc, if_pos rfl, frozen_alloc, if_pos rfl, if_pos rfl]
            exact ⟨rfl, rfl⟩
          · rw [entUpd_other e _ (by omega), entUpd_other e _ (by omega), if_neg hjk]
            intro hne
            obtain ⟨p1, p2, p3, p4⟩ := I.ptr j hj hne
            refine ⟨p1, p2, by rw [size_alloc]; omega, fun i hi => ?_⟩
            rw [hcell _ _ p3, hfroz _ _ p3]
            exact p4 i hi
        · intro j j' hj hj'
          by_cases hjk : j = k <;> by_cases hjk' : j' = k
          · intro _ _ h
            omega
          · rw [entUpd_other e (i := n + k) (j := n + j') _ (by omega)]
            intro _ hne _
            have := (I.ptr j' hj' hne).2.2.1
            rw [if_pos hjk, if_neg hjk']
            omega
          · rw [entUpd_other e (i := n + k) (j := n + j) _ (by omega)]
            intro hne _ _
            have := (I.ptr j hj hne).2.2.1
            rw [if_neg hjk, if_pos hjk']
            omega
          · rw [entUpd_other e (i := n + k) (j := n + j') _ (by omega), entUpd_other e (i := n + k) (j := n + j) _ (by omega)]
            intro h1 h2 h3
            rw [if_neg hjk, if_neg hjk']
            exact I.other j j' hj hj' h1 h2 h3
        · intro j hj
          rw [entUpd_other e _ (by omega)]
          by_cases hjk : j = k
          · subst hjk
            intro h
            exact absurd hes h
          · rw [entUpd_other e _ (by omega)]
            exact I.sto j hj
      · obtain ⟨k, rfl⟩ : ∃ k, i = n + m + k := ⟨i - (n + m), by omega⟩
        have hk : k < m := by omega
        have hcl := ent_some I (waits_listed hi (F.storeWaits k hk)) (by omega)
        obtain ⟨p1, p2, p3, p4⟩ := I.ptr k hk hcl
        rw [if_pos hei] at p4
        have hV' : ∀ s, s ∈ o.looksAt ops → dstOf ops (n + k) ≠ some s → A.eval (.tmp s) = Af.eval (.tmp s) := by
          intro s hs hne
          obtain ⟨vs, g1, g2⟩ := hvals w I.below
          rw [I.act, ← g2]
          refine (fill_eval ops s ops.size n a a rfl rfl (by omega) ?_ ?_).1
          · intro j hj hds
            have hl := waits_listed hi (F.storeSees k o hk ho s hs hne j hds).2
            rcases I.vals j hj with h | h
            · exact absurd h (ent_some I hl (by omega))
            · rw [h, hVV vs g2 j hj]
          · intro j hj _ hds
            have := (F.storeSees k o hk ho s hs hne j hds).1
            omega
        have hP : ∀ s, dstOf ops (n + k) = some s → A.eval (.tmp s) = .pointer (some ⟨b k, 0, none⟩) := by
          intro s hs
          obtain ⟨d, hd, hlt'⟩ := F.cellDst k hk
          obtain rfl : d = s := Option.some.inj (hd.symm.trans hs)
          rw [I.act]
          exact fill_at (by omega) hd p1 hN hlt' (fun j hj => F.apart _ j hj)
        obtain ⟨w'', r1, r2, r3, r4, r5⟩ := hst k hk o (by rw [hget]; exact ho) A (b k) w hP hV' p2 p4
        unfold wpOp
        rw [ho]
        dsimp only
        rw [if_pos (hwant A)]
        refine Or.inl ?_
        unfold Oper.wp
        rw [r1]
        show ∃ e b, _
        refine ⟨entUpd e (n + m + k) undef, b, by rw [Array.size_setIfInBounds]; exact I.size, hput _, inv_ent I.size I.ent hun, hfar _, ?_, I.below.trans r3, ?_, ?_, ?_⟩
        · intro j hj
          rw [entUpd_other e _ (by omega)]
          exact I.vals j hj
        · intro j hj
          rw [entUpd_other e (i := n + m + k) (j := n + j) _ (by omega)]
          intro hne
          obtain ⟨q1, q2, q3, q4⟩ := I.ptr j hj hne
          refine ⟨q1, q2, by omega, fun i hii => ?_⟩
          by_cases hjk : j = k
          · subst hjk
            rw [entUpd_same, if_neg (by simp)]
            exact r4 i hii
          · rw [entUpd_other e _ (by omega), (r5 (b j) i (I.other j k hj hk hne hcl hjk)).1, (r5 (b j) i (I.other j k hj hk hne hcl hjk)).2]
            exact q4 i hii
        · intro j j' hj hj'
          rw [entUpd_other e (i := n + m + k) (j := n + j) _ (by omega), entUpd_other e (i := n + m + k) (j := n + j') _ (by omega)]
          exact I.other j j' hj hj'
        · intro j hj
          rw [entUpd_other e (i := n + m + k) (j := n + j) _ (by omega)]
          by_cases hjk : j = k
          · subst hjk; intro _; exact hcl
          · rw [entUpd_other e _ (by omega)]; exact I.sto j hj
  · rintro listed A w ⟨e, b, I⟩ hr
    have hall := all_of_ready I.size F.back hr
    have hne : ∀ i, i < ops.size → e i ≠ none := fun i hi => ent_some I (hall i hi) hi
    obtain ⟨vs, g1, g2⟩ := hvals w I.below
    have e1 : fillTo ops e n a = Af := by
      rw [← g2]
      refine fill_congr ops a n fun i hi => ?_
      rcases I.vals i hi with h | h
      · exact absurd h (hne i (by omega))
      · rw [h, hVV vs g2 i hi]
    have e2 : ∀ k, k ≤ m → fillTo ops e (n + k) a = ptrs ops n b k Af := by
      intro k
      induction k with
      | zero => intro _; exact e1
      | succ k ih =>
        intro hk
        rw [← Nat.add_assoc, fill_succ, (I.ptr k (by omega) (hne _ (by omega))).1, ih (by omega)]
        rfl
    have e3 : ∀ k, k ≤ m → fillTo ops e (n + m + k) a = ptrs ops n b m Af := by
      intro k
      induction k with
      | zero => intro _; exact e2 m (Nat.le_refl _)
      | succ k ih =>
        intro hk
        rw [← Nat.add_assoc, fill_succ, F.storeDst k (by omega), ih (by omega)]
        cases e (n + m + k) <;> rfl
    rw [I.act, hsz, e3 m (Nat.le_refl _)]
    refine hend b w ⟨I.below, fun k hk => (I.ptr k hk (hne _ (by omega))).2.1, fun k hk => (I.ptr k hk (hne _ (by omega))).2.2.1, fun k hk i hi => ?_, fun k k' hk hk' h => I.other k k' hk hk' (hne _ (by omega)) (hne _ (by omega)) h⟩
    have := (I.ptr k hk (hne _ (by omega))).2.2.2 i hi
    rwa [if_neg (hne _ (by omega))] at this
  · unfold unlisted
    have := List.countP_le_length (p := (· == false)) (l := (Array.replicate ops.size false).toList)
    simpa using this
  · refine ⟨fun _ => none, fun _ => 0, by simp, (fill_none ops _ a _ fun _ _ => rfl).symm, ?_, fun _ _ => rfl, fun _ _ => Or.inl rfl, (Below.refl _ _).drew, fun _ _ h => absurd rfl h, fun _ _ _ _ h => absurd rfl h, fun _ _ h => absurd rfl h⟩
    intro i hi
    simp [hi]

end Go.Proofs.YtfkejnnbfneieaaGreatDoor
