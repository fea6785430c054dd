/- Where the branches of an ordered region meet: they are walked one by one, and the way goes on once, from what the slots hold then. -/
import Derived.Test.YtfkejnnbfneieaaGreatDoorBase
namespace Go.Proofs.YtfkejnnbfneieaaGreatDoor
open Go.RowKit

def joinPost (Q : Exit → Act → World → Prop) (F : (Nat → Value) → World → Prop) (a : Act) (e : Exit) (A : Act) (w : World) : Prop :=
  match e with
  | .normal => A.defers = a.defers ∧ F (fun s => A.eval (.tmp s)) w
  | e => Q e A w
/-- Slots filled by what a function says. -/
def refill (u : Nat → Value) : List Nat → Act → Act
  | [], a => a
  | s :: r, a => refill u r (a.put (some s) (u s))
def slotsOf (l : List Oper) : List Nat := l.filterMap (·.dst)
/-- Nothing but these operations' slots is another. -/
def OffSlots (l : List Oper) (a A : Act) : Prop := A.tmps.size = a.tmps.size ∧ ∀ s : Nat, s ∉ slotsOf l → A.tmps[s]? = a.tmps[s]?
section
variable {P : Program} {ops : Array Oper}
theorem refill_defers (u : Nat → Value) : ∀ (ss : List Nat) (a : Act), (refill u ss a).defers = a.defers
  | [], _ => rfl
  | s :: r, a => by unfold refill; rw [refill_defers u r]; rfl
theorem refill_size (u : Nat → Value) : ∀ (ss : List Nat) (a : Act), (refill u ss a).tmps.size = a.tmps.size
  | [], _ => rfl
  | s :: r, a => by unfold refill; rw [refill_size u r]; simp [Act.put]
theorem refill_at (u : Nat → Value) : ∀ (ss : List Nat) (a : Act) (s : Nat), s < a.tmps.size → (refill u ss a).tmps[s]? = if s ∈ ss then some (u s) else a.tmps[s]?
  | [], a, s, _ => by simp [refill]
  | d :: r, a, s, hs => by
    unfold refill
    rw [refill_at u r _ s (by simpa [Act.put] using hs)]
    by_cases h : s ∈ r
    · simp [h]
    · by_cases hd : s = d
      · subst hd
        simp [h, Act.put, hs]
      · have hd' : ¬ d = s := fun e => hd e.symm
        simp [h, hd, hd', Act.put]
theorem refill_eq {l : List Oper} {a A : Act} (h : OffSlots l a A) (hd : A.defers = a.defers) : A = refill (fun s => A.eval (.tmp s)) (slotsOf l) a := by
  have e : A.tmps = (refill (fun s => A.eval (.tmp s)) (slotsOf l) a).tmps := by
    apply Array.ext'
    apply List.ext_getElem?
    intro s
    rw [Array.getElem?_toList, Array.getElem?_toList]
    by_cases hs : s < a.tmps.size
    · rw [refill_at _ _ _ _ hs]
      by_cases hm : s ∈ slotsOf l
      · rw [if_pos hm]
        have hs' : s < A.tmps.size := by rw [h.1]; exact hs
        rw [Array.getElem?_eq_getElem hs']
        simp [Act.eval, Array.getD, hs']
      · rw [if_neg hm]; exact h.2 s hm
    · rw [Array.getElem?_eq_none (by rw [h.1]; omega), Array.getElem?_eq_none (by rw [refill_size]; omega)]
  have ext : ∀ x y : Act, x.tmps = y.tmps → x.defers = y.defers → x = y := fun x y h1 h2 => by
    cases x; cases y
    simp only at h1 h2
    rw [h1, h2]
  exact ext _ _ e (by rw [refill_defers]; exact hd)
theorem off_step {o : Oper} {l : List Oper} {a B A : Act} (v : Value) (hB : B.tmps = (a.put o.dst v).tmps) (h : OffSlots l B A) : OffSlots (o :: l) a A := by
  cases hd : o.dst with
  | none =>
    rw [hd] at hB
    have e : slotsOf (o :: l) = slotsOf l := by simp [slotsOf, hd]
    refine ⟨by rw [h.1, hB]; rfl, fun s hs => ?_⟩
    rw [e] at hs
    rw [h.2 s hs, hB]; rfl
  | some d =>
    rw [hd] at hB
    have e : slotsOf (o :: l) = d :: slotsOf l := by simp [slotsOf, hd]
    refine ⟨by rw [h.1, hB]; simp [Act.put], fun s hs => ?_⟩
    rw [e, List.mem_cons, not_or] at hs
    have hs1 : ¬ d = s := fun e => hs.1 e.symm
    rw [h.2 s hs.2, hB]
    simp [Act.put, hs1]
theorem wpList_frame {Q Q' : Exit → Act → World → Prop} (hq : ∀ e A w, e ≠ .normal → Q e A w → Q' e A w) : ∀ (l : List Oper) (a : Act) (w : World), wpList P ops Q l a w →
    (∀ A w', OffSlots l a A → Q .normal A w' → Q' .normal A w') → wpList P ops Q' l a w
  | [], a, w, h, hn => hn a w ⟨rfl, fun _ _ => rfl⟩ h
  | o :: l, a, w, h, hn => by
    have out : LetsOut Q → LetsOut Q' := fun ⟨x, y, q⟩ => ⟨x, y, hq _ _ _ (by intro h; cases h) q⟩
    unfold wpList at h ⊢
    split
    · rename_i hw
      rw [if_pos hw] at h
      rcases h with h | h
      · left
        unfold Oper.wp at h ⊢
        generalize (execOp a.eval o).run P w = r at h ⊢
        have go : ∀ (B : Act) (v : Value) (w1 : World), B.tmps = (a.put o.dst v).tmps → wpList P ops Q l B w1 → wpList P ops Q' l B w1 := fun B v w1 hB h1 => wpList_frame hq l B w1 h1 fun A w' hA => hn A w' (off_step v hB hA)
        cases r with
        | ok n w1 =>
          cases n with
          | value v => exact go _ v _ rfl h
          | skip => exact go _ undef _ rfl h
          | defer d => exact go _ undef _ (by cases o.dst <;> rfl) h
          | enter f args =>
            refine Calls.mono h ?_
            intro e w2 h2
            cases e with
            | returned v => exact go _ v _ rfl h2
            | panicked c => exact hq _ _ _ (by intro h; cases h) h2
            | outgrown => exact out h2
          | row r args => exact Rows.mono h fun v w' h2 => go _ v _ rfl h2
          | _ => exact h
        | halt x w1 =>
          cases x with
          | panic v => exact hq _ _ _ (by intro h; cases h) h
          | _ => exact h
      · exact Or.inr ⟨h.1, out h.2⟩
    · rename_i hw
      rw [if_neg hw] at h
      exact wpList_frame hq l _ w h fun A w' hA => hn A w' (off_step undef rfl hA)
/-- The branches meet. -/
theorem wpList_join {Q : Exit → Act → World → Prop} {l : List Oper} {a : Act} {w : World} (F : (Nat → Value) → World → Prop) (ss : List Nat) (hss : slotsOf l = ss)
    (h1 : wpList P ops (joinPost Q F a) l a w) (h2 : ∀ u w', F u w' → Q .normal (refill u ss a) w') : wpList P ops Q l a w := by
  subst hss
  refine wpList_frame (fun e A w' he h => ?_) l a w h1 fun A w' hA h => ?_
  · cases e with
    | normal => exact absurd rfl he
    | _ => exact h
  · have := h2 _ _ h.2
    rw [← refill_eq hA h.1] at this
    exact this
theorem wpList_append {Q : Exit → Act → World → Prop} : ∀ (l m : List Oper) (a : Act) (w : World), wpList P ops (fun e A w' => match e with | .normal => wpList P ops Q m A w' | e => Q e A w') l a w → wpList P ops Q (l ++ m) a w
  | [], m, a, w, h => h
  | o :: l, m, a, w, h => by
    have out : LetsOut (fun e A w' => match e with | .normal => wpList P ops Q m A w' | e => Q e A w') → LetsOut Q := fun ⟨x, y, q⟩ => ⟨x, y, q⟩
    rw [List.cons_append]
    unfold wpList at h ⊢
    split
    · rename_i hw
      rw [if_pos hw] at h
      rcases h with h | h
      · left
        unfold Oper.wp at h ⊢
        generalize (execOp a.eval o).run P w = r at h ⊢
        cases r with
        | ok n w1 =>
          cases n with
          | value v => exact wpList_append l m _ w1 h
          | skip => exact wpList_append l m _ w1 h
          | defer d => exact wpList_append l m _ w1 h
          | enter f args =>
            refine Calls.mono h ?_
            intro e w2 h2
            cases e with
            | returned v => exact wpList_append l m _ w2 h2
            | panicked c => exact h2
            | outgrown => exact out h2
          | row r args => exact Rows.mono h fun v w' h2 => wpList_append l m _ w' h2
          | _ => exact h
        | halt x w1 =>
          cases x with
          | panic v => exact h
          | _ => exact h
      · exact Or.inr ⟨h.1, out h.2⟩
    · rename_i hw
      rw [if_neg hw] at h
      exact wpList_append l m _ w h
/-- The branches of the first operations meet. -/
theorem wpList_join_at {Q : Exit → Act → World → Prop} {l : List Oper} {a : Act} {w : World} (k : Nat) (F : (Nat → Value) → World → Prop) (ss : List Nat) (hss : slotsOf (l.take k) = ss)
    (h1 : wpList P ops (joinPost Q F a) (l.take k) a w) (h2 : ∀ u w', F u w' → wpList P ops Q (l.drop k) (refill u ss a) w') : wpList P ops Q l a w := by
  rw [← List.take_append_drop k l]
  refine wpList_append _ _ _ _ (wpList_join (fun u w' => F u w') ss hss ?_ h2)
  refine wpList_frame (fun e A w' he h => ?_) _ _ _ h1 fun A w' _ h => h
  cases e with
  | normal => exact absurd rfl he
  | _ => exact h
theorem join_end {Q : Exit → Act → World → Prop} {F : (Nat → Value) → World → Prop} {a A : Act} {w : World} (hd : A.defers = a.defers) (hF : F (fun s => A.eval (.tmp s)) w) : joinPost Q F a .normal A w := ⟨hd, hF⟩
end
end Go.Proofs.YtfkejnnbfneieaaGreatDoor
