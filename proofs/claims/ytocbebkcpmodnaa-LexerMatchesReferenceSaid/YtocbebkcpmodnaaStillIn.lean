/- A region that draws its order, inside a fence: operations that only read, then one call and what waits for it. -/
import Derived.Test.YtocbebkcpmodnaaBase
import Derived.StillTail
import Derived.StillTailTactics
import Derived.OrdersIn
import Derived.TacticsIn
import Derived.OwnWalkIn
namespace Go.Proofs.Ytocbebkcpmodnaa
open Go.RowKit

/-- Operations that yield a value and call nothing. -/
def mildB : Op → Bool
  | .move _ | .assign _ | .load _ _ | .binOp _ _ _ _ _ | .unOp _ _ _ | .convert _ _ _ | .fieldAddr _ _ _ | .field _ _ _ | .indexAddr _ _ _ | .index _ _ _ | .extract _ _ => true
  | _ => false
theorem andThen_value {P : Program} {r : Result Value} {w' : World} {x : Next} (h : (r.andThen fun a w1 => (pure (Next.value a) : Sem Next).run P w1) = .ok x w') : ∃ v, x = .value v := by
  cases r with
  | ok a w1 => exact ⟨a, (Result.ok.inj h).1.symm⟩
  | halt a w1 => cases h
theorem mild_value {o : Oper} {ρ : Operand → Value} {P : Program} {w w' : World} {x : Next} (hm : mildB o.op = true) (h : (execOp ρ o).run P w = .ok x w') : ∃ v, x = .value v := by
  unfold execOp at h
  cases ho : o.op <;> rw [ho] at hm h <;> first | (simp [mildB] at hm; done) | skip
  all_goals
    simp only [Sem.run_bind] at h
    first
      | exact ⟨_, (Result.ok.inj h).1.symm⟩
      | exact andThen_value h
theorem mild_about {o : Oper} (hm : mildB o.op = true) (P : Program) (w : World) (ρ : Operand → Value) : o.about P w ρ = none := by
  unfold Oper.about
  cases ho : o.op <;> rw [ho] at hm <;> first | rfl | (simp [mildB] at hm; done)
theorem mild_plain {o : Oper} (hm : mildB o.op = true) (F : Fence) (ρ : Operand → Value) : o.semAt F.round ρ = execOp ρ o :=
  Oper.semAt_plain F ρ o fun c h => by rw [h] at hm; simp [mildB] at hm

section
variable {F : Fence} {m : Nat} {P : Program} {ops : Array Oper} {md : Region.Mode} {w : World} {Q' : Exit → Act → World → Prop}
theorem wpOpIn_of_stOp {i : Nat} {a : Act} {K : Act → Prop} {K' : Act → World → Prop} (hmild : ∀ o, ops[i]? = some o → mildB o.op = true) (h : ∀ a, K a → K' a w) (hh : stOp P ops w i K a) : wpOpIn F m P ops Q' i K' a w := by
  unfold stOp at hh
  unfold wpOpIn
  split
  · rename_i ho; simp only [ho] at hh; exact h _ hh
  · rename_i o ho
    simp only [ho] at hh
    have hmo := hmild o ho
    split
    · rename_i hw
      simp only [hw, if_true] at hh
      unfold Oper.still at hh
      unfold Oper.wpIn
      refine ⟨fun f hf => (by rw [mild_about hmo] at hf; cases hf), ?_⟩
      rw [mild_plain hmo]
      cases hr : (execOp a.eval o).run P w with
      | ok x w' =>
        obtain ⟨v, rfl⟩ := mild_value hmo hr
        rw [hr] at hh
        obtain ⟨rfl, hK⟩ := hh
        exact h _ hK
      | halt x w' => rw [hr] at hh; exact hh.elim
    · rename_i hw
      simp only [hw] at hh
      exact ⟨fun f hf => (by rw [mild_about hmo] at hf; cases hf), h _ hh⟩
theorem wpAnyIn_of_head {n g : Nat} {L : Array Bool → Act → Prop} (hmild : ∀ i o, i < n → ops[i]? = some o → mildB o.op = true) (hL : ∀ listed a, L listed a → wpAnyIn F m P md ops Q' g listed a w) :
    ∀ (f : Nat) (listed : Array Bool) (a : Act), wpAnyL P md ops w n L f listed a → wpAnyIn F m P md ops Q' (f + g) listed a w
  | 0, listed, a, h => by rw [Nat.zero_add]; exact hL _ _ h
  | f + 1, listed, a, h => by
    rw [show f + 1 + g = (f + g) + 1 by omega]
    exact ⟨fun h0 => absurd h0 h.1, fun i hi => wpOpIn_of_stOp (fun o ho => hmild i o (h.2 i hi).1 ho) (fun a' h' => wpAnyIn_of_head hmild hL f _ a' h') (h.2 i hi).2⟩
theorem wpAnyIn_of_seq : ∀ (l : List Oper) (k : Nat) (listed : Array Bool) (a : Act) (w : World), (∀ j, l[j]? = ops[k + j]?) →
    Region.seqB md ops l.length k listed = true → wpListIn F m P ops Q' l a w → wpAnyIn F m P md ops Q' l.length listed a w
  | [], _, _, _, _, _, hB, h => ⟨by simpa [Region.seqB] using hB, h⟩
  | o :: l, k, listed, a, w, hl, hB, h => by
    have h0 : ops[k]? = some o := by simpa using (hl 0).symm
    simp only [List.length_cons, Region.seqB, Bool.and_eq_true, decide_eq_true_eq] at hB
    refine ⟨fun h1 => (by rw [hB.1] at h1; cases h1), fun i hi => ?_⟩
    rw [hB.1] at hi
    have hik : i = k := by simpa using hi
    subst hik
    have hw : wpOpIn F m P ops Q' i (wpListIn F m P ops Q' l) a w := by unfold wpOpIn; simp only [h0]; exact h
    exact wpOpIn_mono (fun a' w' h' => wpAnyIn_of_seq l (i + 1) _ a' w' (fun j => by have := hl (j + 1); simpa [Nat.add_assoc, Nat.add_comm 1 j] using this) hB.2 h') hw
theorem wpIn_region_still_tail {id : Nat} {a : Act} {l : List Oper} (n : Nat) (hm : P.follows .mixedOrders = true) (hB : Region.lexTailB .any l.toArray n = true) (hmB : ((l.take n).all fun o => mildB o.op) = true)
    (h : wpStill P l.toArray w.drew (fun a' => wpListIn F m P l.toArray Q' (l.drop n) a' w.drew) (l.take n) a) : (Code.region id l.toArray true).wpIn F m P Q' a w := by
  simp only [Region.lexTailB, Bool.and_eq_true, decide_eq_true_eq] at hB
  obtain ⟨⟨⟨⟨hsel, hn⟩, hs⟩, hc⟩, hlex⟩ := hB
  have hn' : n < l.length := by simpa using hn
  have htl : (l.take n).length = n := by simp; omega
  have hdl : (l.drop n).length = l.toArray.size - n := by simp
  have hmild : ∀ i o, i < n → l.toArray[i]? = some o → mildB o.op = true := fun i o hi ho => by
    have : o ∈ l.take n := by
      have h1 : (l.take n)[i]? = some o := by rw [List.getElem?_take_of_lt hi]; simpa using ho
      exact List.mem_of_getElem? h1
    exact List.all_eq_true.1 hmB o this
  have inv0 : HeadInv .any l.toArray n (Array.replicate l.toArray.size false) :=
    ⟨by simp, fun j oj _ hl => (by rw [getD_replicate_false] at hl; cases hl), fun t _ ht => getD_in (by simpa using ht) (getD_replicate_false _ _)⟩
  have H := wpAnyL_lex (md := .any) (g := l.toArray.size - n) hsel hs hc hn (l.take n) 0 _ a (fun j hj => by
    have hj' : j < n := by rw [htl] at hj; exact hj
    simp [hj']) (by simpa using htl) inv0 (by rw [htl]; exact hlex) h
  refine wpIn_region_any hm ?_
  have := wpAnyIn_of_head (F := F) (m := m) (Q' := Q') (g := l.toArray.size - n) hmild (fun listed a' hL => by
    have := wpAnyIn_of_seq (F := F) (m := m) (md := .any) (Q' := Q') (l.drop n) n listed a' w.drew (fun j => by simp [List.getElem?_drop]) (by rw [hdl]; exact hL.1) hL.2
    rwa [hdl] at this) _ _ _ H
  rw [htl, show n + (l.toArray.size - n) = l.toArray.size by omega] at this
  exact this
end

end Go.Proofs.Ytocbebkcpmodnaa
