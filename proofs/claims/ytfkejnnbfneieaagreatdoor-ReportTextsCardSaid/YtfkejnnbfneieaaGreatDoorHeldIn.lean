/- A region that draws its order, inside a fence: operations that only read, then one call and what waits for it. -/
import Derived.Test.YtfkejnnbfneieaaGreatDoorBase
import Derived.StillTail
import Derived.StillTailTactics
import Derived.OrdersIn
import Derived.TacticsIn
import Derived.OwnWalkIn
import Derived.Test.YtfkejnnbfneieaaGreatDoorGrown
import Derived.BigQuiet
import Derived.Deep.QuietTactic
import Derived.Deep.AppendLies
namespace Go.Proofs.YtfkejnnbfneieaaGreatDoor
open Go.RowKit

/-- Operations that yield a value and call nothing. -/
def mildB : Op → Bool
  | .move _ | .assign _ | .load _ _ | .binOp _ _ _ _ _ | .unOp _ _ _ | .convert _ _ _ | .fieldAddr _ _ _ | .field _ _ _ | .indexAddr _ _ _ | .index _ _ _ | .extract _ _ => true
  | _ => false
theorem andThen_value {P : Program} {r : Result Value} {w' : World} {x : Next} (h : (r.andThen fun a w1 => (pure (Next.value a) : Sem Next).run P w1) = .ok x w') : ∃ v, x = .value v := by
  cases r with
  | ok a w1 => exact ⟨a, (Result.ok.inj h).1.symm⟩
  | halt a w1 => cases h
theorem mild_value {o : Oper} {ρ : Operand → Value} {P : Program} {w w' : World} {x : Next} (hm : mildB o.op = true) (h : (execOp ρ o).run P w = .ok x w') : ∃ v, x = .value v := by
  unfold execOp at h
  cases ho : o.op <;> rw [ho] at hm h <;> first | (simp [mildB] at hm; done) | skip
  all_goals
    simp only [Sem.run_bind] at h
    first
      | exact ⟨_, (Result.ok.inj h).1.symm⟩
      | exact andThen_value h
theorem mild_about {o : Oper} (hm : mildB o.op = true) (P : Program) (w : World) (ρ : Operand → Value) : o.about P w ρ = none := by
  unfold Oper.about
  cases ho : o.op <;> rw [ho] at hm <;> first | rfl | (simp [mildB] at hm; done)
theorem mild_plain {o : Oper} (hm : mildB o.op = true) (F : Fence) (ρ : Operand → Value) : o.semAt F.round ρ = execOp ρ o :=
  Oper.semAt_plain F ρ o fun c h => by rw [h] at hm; simp [mildB] at hm

section
variable {F : Fence} {m : Nat} {P : Program} {ops : Array Oper} {md : Region.Mode} {w : World} {Q' : Exit → Act → World → Prop}
theorem wpOpIn_of_stOp {i : Nat} {a : Act} {K : Act → Prop} {K' : Act → World → Prop} (hmild : ∀ o, ops[i]? = some o → mildB o.op = true) (h : ∀ a, K a → K' a w) (hh : stOp P ops w i K a) : wpOpIn F m P ops Q' i K' a w := by
  unfold stOp at hh
  unfold wpOpIn
  split
  · rename_i ho; simp only [ho] at hh; exact h _ hh
  · rename_i o ho
    simp only [ho] at hh
    have hmo := hmild o ho
    split
    · rename_i hw
      simp only [hw, if_true] at hh
      unfold Oper.still at hh
      unfold Oper.wpIn
      refine ⟨fun f hf => (by rw [mild_about hmo] at hf; cases hf), ?_⟩
      rw [mild_plain hmo]
      cases hr : (execOp a.eval o).run P w with
      | ok x w' =>
        obtain ⟨v, rfl⟩ := mild_value hmo hr
        rw [hr] at hh
        obtain ⟨rfl, hK⟩ := hh
        exact h _ hK
      | halt x w' => rw [hr] at hh; exact hh.elim
    · rename_i hw
      simp only [hw] at hh
      exact ⟨fun f hf => (by rw [mild_about hmo] at hf; cases hf), h _ hh⟩
theorem wpAnyIn_of_head {n g : Nat} {L : Array Bool → Act → Prop} (hmild : ∀ i o, i < n → ops[i]? = some o → mildB o.op = true) (hL : ∀ listed a, L listed a → wpAnyIn F m P md ops Q' g listed a w) :
    ∀ (f : Nat) (listed : Array Bool) (a : Act), wpAnyL P md ops w n L f listed a → wpAnyIn F m P md ops Q' (f + g) listed a w
  | 0, listed, a, h => by rw [Nat.zero_add]; exact hL _ _ h
  | f + 1, listed, a, h => by
    rw [show f + 1 + g = (f + g) + 1 by omega]
    exact ⟨fun h0 => absurd h0 h.1, fun i hi => wpOpIn_of_stOp (fun o ho => hmild i o (h.2 i hi).1 ho) (fun a' h' => wpAnyIn_of_head hmild hL f _ a' h') (h.2 i hi).2⟩
theorem wpAnyIn_of_seq : ∀ (l : List Oper) (k : Nat) (listed : Array Bool) (a : Act) (w : World), (∀ j, l[j]? = ops[k + j]?) →
    Region.seqB md ops l.length k listed = true → wpListIn F m P ops Q' l a w → wpAnyIn F m P md ops Q' l.length listed a w
  | [], _, _, _, _, _, hB, h => ⟨by simpa [Region.seqB] using hB, h⟩
  | o :: l, k, listed, a, w, hl, hB, h => by
    have h0 : ops[k]? = some o := by simpa using (hl 0).symm
    simp only [List.length_cons, Region.seqB, Bool.and_eq_true, decide_eq_true_eq] at hB
    refine ⟨fun h1 => (by rw [hB.1] at h1; cases h1), fun i hi => ?_⟩
    rw [hB.1] at hi
    have hik : i = k := by simpa using hi
    subst hik
    have hw : wpOpIn F m P ops Q' i (wpListIn F m P ops Q' l) a w := by unfold wpOpIn; simp only [h0]; exact h
    exact wpOpIn_mono (fun a' w' h' => wpAnyIn_of_seq l (i + 1) _ a' w' (fun j => by have := hl (j + 1); simpa [Nat.add_assoc, Nat.add_comm 1 j] using this) hB.2 h') hw
theorem wpIn_region_still_tail {id : Nat} {a : Act} {l : List Oper} (n : Nat) (hm : P.follows .mixedOrders = true) (hB : Region.lexTailB .any l.toArray n = true) (hmB : ((l.take n).all fun o => mildB o.op) = true)
    (h : wpStill P l.toArray w.drew (fun a' => wpListIn F m P l.toArray Q' (l.drop n) a' w.drew) (l.take n) a) : (Code.region id l.toArray true).wpIn F m P Q' a w := by
  simp only [Region.lexTailB, Bool.and_eq_true, decide_eq_true_eq] at hB
  obtain ⟨⟨⟨⟨hsel, hn⟩, hs⟩, hc⟩, hlex⟩ := hB
  have hn' : n < l.length := by simpa using hn
  have htl : (l.take n).length = n := by simp; omega
  have hdl : (l.drop n).length = l.toArray.size - n := by simp
  have hmild : ∀ i o, i < n → l.toArray[i]? = some o → mildB o.op = true := fun i o hi ho => by
    have : o ∈ l.take n := by
      have h1 : (l.take n)[i]? = some o := by rw [List.getElem?_take_of_lt hi]; simpa using ho
      exact List.mem_of_getElem? h1
    exact List.all_eq_true.1 hmB o this
  have inv0 : HeadInv .any l.toArray n (Array.replicate l.toArray.size false) :=
    ⟨by simp, fun j oj _ hl => (by rw [getD_replicate_false] at hl; cases hl), fun t _ ht => getD_in (by simpa using ht) (getD_replicate_false _ _)⟩
  have H := wpAnyL_lex (md := .any) (g := l.toArray.size - n) hsel hs hc hn (l.take n) 0 _ a (fun j hj => by
    have hj' : j < n := by rw [htl] at hj; exact hj
    simp [hj']) (by simpa using htl) inv0 (by rw [htl]; exact hlex) h
  refine wpIn_region_any hm ?_
  have := wpAnyIn_of_head (F := F) (m := m) (Q' := Q') (g := l.toArray.size - n) hmild (fun listed a' hL => by
    have := wpAnyIn_of_seq (F := F) (m := m) (md := .any) (Q' := Q') (l.drop n) n listed a' w.drew (fun j => by simp [List.getElem?_drop]) (by rw [hdl]; exact hL.1) hL.2
    rwa [hdl] at this) _ _ _ H
  rw [htl, show n + (l.toArray.size - n) = l.toArray.size by omega] at this
  exact this
end

end Go.Proofs.YtfkejnnbfneieaaGreatDoor

/- A region that draws its order: operations and calls that only read or make memory come first, in any order; behind all of them one operation that writes, and what waits for it. -/
namespace Go.Proofs.YtfkejnnbfneieaaGreatDoor
open Go.RowKit

section
variable {P : Program} {md : Region.Mode} {ops : Array Oper} {C : World → Prop}

/-- The head's operations in any order, each of them quiet over the class; L is what holds behind them. -/
def headQ (P : Program) (md : Region.Mode) (ops : Array Oper) (C : World → Prop) (n : Nat) (L : Array Bool → Act → Prop) : Nat → Array Bool → Act → Prop
  | 0, listed, a => L listed a
  | f + 1, listed, a => Region.ready md ops listed ≠ [] ∧ ∀ i ∈ Region.ready md ops listed, i < n ∧ qOp P ops C i (headQ P md ops C n L f (listed.setIfInBounds i true)) a

theorem any_of_headQ {n g : Nat} {L : Array Bool → Act → Prop} {Q' : Exit → Act → World → Prop} (hL : ∀ listed a, L listed a → ∀ w, C w → wpAny P md ops Q' g listed a w) :
    ∀ (f : Nat) (listed : Array Bool) (a : Act), headQ P md ops C n L f listed a → ∀ w, C w → wpAny P md ops Q' (f + g) listed a w
  | 0, listed, a, h, w, hw => by rw [Nat.zero_add]; exact hL _ _ h w hw
  | f + 1, listed, a, h, w, hw => by
    have e : f + 1 + g = (f + g) + 1 := by omega
    rw [e]
    exact ⟨fun h0 => absurd h0 h.1, fun i hi => wpOp_of_qOp hw (fun a' w' hw' h' => any_of_headQ hL f _ a' h' w' hw') (h.2 i hi).2⟩

theorem headQ_first {n i : Nat} {oi : Oper} {v : Value} {L : Array Bool → Act → Prop} (hi : ops[i]? = some oi) (hsel : ∀ (j : Nat) (o : Oper) cs b, ops[j]? = some o → o.op ≠ .select cs b)
    (hs : Region.sinkB md ops n = true) (hc : Region.chainB md ops n = true) (hn : n < ops.size) (hin : i < n) (hdone : ∀ listed a, L listed a → ∀ j ∈ Region.ready md ops listed, n ≤ j) :
    ∀ (f : Nat) (listed : Array Bool) (a : Act), HeadInv md ops n listed →
      (∀ j oj, ops[j]? = some oj → j ≠ i → listed.getD j true = false → (∀ e ∈ oj.after, Region.binds md e = true → e.on ≠ i) → oi.apart ops oj = true) →
      i ∈ Region.ready md ops listed → YieldsIn P ops C oi v a → headQ P md ops C n L f (listed.setIfInBounds i true) (a.put oi.dst v) → headQ P md ops C n L (f + 1) listed a := by
  intro f
  induction f with
  | zero =>
    intro listed a inv _ hr hy H
    have hun := (mem_ready.1 hr).1
    refine ⟨fun h => (by rw [h] at hr; cases hr), fun j hj => ?_⟩
    have hjn : j < n := (Nat.lt_or_ge j n).elim id fun h => absurd hj (tail_waits hs hc hn inv _ i rfl hin hun j h)
    refine ⟨hjn, ?_⟩
    by_cases hji : j = i
    · subst hji; exact hy.qOp hi H
    · have := hdone _ _ H j (ready_mono hj hji)
      omega
  | succ f ih =>
    intro listed a inv hfree hr hy H
    have hun := (mem_ready.1 hr).1
    refine ⟨fun h => (by rw [h] at hr; cases hr), fun j hj => ?_⟩
    have hjn : j < n := (Nat.lt_or_ge j n).elim id fun h => absurd hj (tail_waits hs hc hn inv _ i rfl hin hun j h)
    refine ⟨hjn, ?_⟩
    by_cases hji : j = i
    · subst hji; exact hy.qOp hi H
    · have h1 := (H.2 j (ready_mono hj hji)).2
      obtain ⟨hjun, oj, hoj, hall⟩ := mem_ready.1 hj
      have hnot : ∀ e ∈ oj.after, Region.binds md e = true → e.on ≠ i := fun e he hb heq => by
        have h2 := hall e he hb
        rw [heq, getD_both hun] at h2
        cases h2
      have h2 := qOp_put hoj (hfree j oj hoj hji hjun hnot) (fun cs b => hsel i oi cs b hi) (fun cs b => hsel j oj cs b hoj) hy h1
      have hfree' : ∀ k ok, ops[k]? = some ok → k ≠ i → (listed.setIfInBounds j true).getD k true = false → (∀ e ∈ ok.after, Region.binds md e = true → e.on ≠ i) → oi.apart ops ok = true := fun k ok hk hki hku hno => by
        refine hfree k ok hk hki ?_ hno
        by_cases hjk : j = k
        · subst hjk; exact hjun
        · rwa [getD_set_ne true hjk] at hku
      refine qOp_mono (fun a' h3 => ih (listed.setIfInBounds j true) a' (inv.set hj hjn) hfree' (ready_mono hr (Ne.symm hji)) h3.1 ?_) h2
      rw [Array.setIfInBounds_comm _ _ hji]
      exact h3.2

theorem headQ_lex {n g : Nat} {Lq : Act → Prop} (hsel : Region.noSelect ops = true) (hs : Region.sinkB md ops n = true) (hc : Region.chainB md ops n = true) (hn : n < ops.size) :
    ∀ (l : List Oper) (k : Nat) (listed : Array Bool) (a : Act), (∀ j, j < l.length → l[j]? = ops[k + j]?) → k + l.length = n → HeadInv md ops n listed →
    Region.lexHead md ops g l.length k listed = true → wpQuiet P ops C Lq l a →
    headQ P md ops C n (fun listed' a' => Region.seqB md ops g n listed' = true ∧ Lq a') l.length listed a
  | [], k, listed, a, _, hk, _, hB, h => by
    obtain rfl : k = n := by simpa using hk
    exact ⟨by simpa [Region.lexHead] using hB, h⟩
  | o :: l, k, listed, a, hl, hk, inv, hB, h => by
    have h0 : ops[k]? = some o := by simpa using (hl 0 (by simp)).symm
    simp only [List.length_cons, Region.lexHead, Bool.and_eq_true] at hB
    obtain ⟨⟨hr, hf⟩, hB'⟩ := hB
    have hkn : k < n := by simp only [List.length_cons] at hk; omega
    have hr' : k ∈ Region.ready md ops listed := by simpa using hr
    have hq : qOp P ops C k (wpQuiet P ops C Lq l) a := by unfold qOp; simp only [h0]; exact h
    obtain ⟨v, hy, hK⟩ := yieldsIn_of_qOp h0 hq
    exact headQ_first h0 (Region.noSelect_spec hsel) hs hc hn hkn (fun listed' a' hL => seqB_ready hL.1) l.length listed a inv (Region.free_spec h0 hf) hr' hy
      (headQ_lex hsel hs hc hn l (k + 1) _ _ (fun j hj => by have := hl (j + 1) (by simp; omega); simpa [Nat.add_assoc, Nat.add_comm 1 j] using this) (by simp only [List.length_cons] at hk; omega) (inv.set hr' hkn) hB' hK)
end

theorem wp_region_grown_tail {P : Program} {id : Nat} {Q : Exit → Act → World → Prop} {a : Act} {w : World} {l : List Oper} (n : Nat) (hm : P.follows .mixedOrders = true) (hB : Region.lexTailB .any l.toArray n = true)
    (h : wpQuiet P l.toArray (fun w' => ∃ x : Grown w, w' = x.w) (fun a' => ∀ x : Grown w, wpList P l.toArray Q (l.drop n) a' x.w) (l.take n) a) : (Code.region id l.toArray true).wp P Q a w := by
  simp only [Region.lexTailB, Bool.and_eq_true, decide_eq_true_eq] at hB
  obtain ⟨⟨⟨⟨hsel, hn⟩, hs⟩, hc⟩, hlex⟩ := hB
  have htl : (l.take n).length = n := by simp at hn ⊢; omega
  have hdl : (l.drop n).length = l.toArray.size - n := by simp
  have inv0 : HeadInv .any l.toArray n (Array.replicate l.toArray.size false) :=
    ⟨by simp, fun j oj _ hl => (by rw [getD_replicate_false] at hl; cases hl), fun t _ ht => getD_in (by simpa using ht) (getD_replicate_false _ _)⟩
  have H := headQ_lex (md := .any) (g := l.toArray.size - n) hsel hs hc hn (l.take n) 0 _ a (fun j hj => by
    have hj' : j < n := by rw [htl] at hj; exact hj
    simp [hj']) (by simpa using htl) inv0 (by rw [htl]; exact hlex) h
  refine wp_region_any hm ?_
  have h2 := any_of_headQ (Q' := Q) (g := l.toArray.size - n) (fun listed a' hL w' hw' => by
    obtain ⟨x, rfl⟩ := hw'
    have h3 := wpAny_of_seq (md := .any) (Q' := Q) (l.drop n) n listed a' x.w (fun j => by simp [List.getElem?_drop]) (by rw [hdl]; exact hL.1) (hL.2 x)
    rwa [hdl] at h3) _ _ _ H { w with drawn := w.drawn + 1 } ⟨⟨w.drew, (Below.refl _ _).drew⟩, rfl⟩
  rw [htl, show n + (l.toArray.size - n) = l.toArray.size by omega] at h2
  exact h2

end Go.Proofs.YtfkejnnbfneieaaGreatDoor

/- A region that draws its order, inside a fence: operations that only read, which yield the same in every world of a class, and a chain of calls and writes that may begin before them: the readers are taken first. -/
namespace Go.Proofs.YtfkejnnbfneieaaGreatDoor
open Go.RowKit

section
variable {F : Fence} {m : Nat} {P : Program} {ops : Array Oper} {md : Region.Mode} {Q : Exit → Act → World → Prop} {E : Nat → Bool} {C : World → Prop}

/-- Whatever order is picked; behind an early operation the class holds. -/
def anyE (F : Fence) (m : Nat) (P : Program) (md : Region.Mode) (ops : Array Oper) (Q : Exit → Act → World → Prop) (E : Nat → Bool) (C : World → Prop) : Nat → Array Bool → Act → World → Prop
  | 0, listed, a, w => Region.ready md ops listed = [] ∧ Q .normal a w
  | f + 1, listed, a, w => (Region.ready md ops listed = [] → Q .normal a w) ∧ ∀ i ∈ Region.ready md ops listed, wpOpIn F m P ops Q i (fun a' w' => (E i = true → C w') ∧ anyE F m P md ops Q E C f (listed.setIfInBounds i true) a' w') a w

theorem anyIn_of_anyE : ∀ (f : Nat) (listed : Array Bool) (a : Act) (w : World), anyE F m P md ops Q E C f listed a w → wpAnyIn F m P md ops Q f listed a w
  | 0, _, _, _, h => h
  | f + 1, _, _, _, h => ⟨h.1, fun i hi => wpOpIn_mono (fun a' w' h' => anyIn_of_anyE f _ a' w' h'.2) (h.2 i hi)⟩

/-- One value in every world of the class, and nothing is touched. -/
def YieldsC (P : Program) (ops : Array Oper) (C : World → Prop) (o : Oper) (v : Value) (a : Act) : Prop :=
  Region.wanted o (yielded ops a.tmps) = true ∧ (∀ w, C w → (execOp a.eval o).run P w = .ok (.value v) w) ∧ ∀ w, o.about P w a.eval = none
theorem YieldsC.of_same {o : Oper} {v : Value} {a a' : Act} (hy : YieldsC P ops C o v a) (he : execOp a'.eval o = execOp a.eval o)
    (hw : Region.wanted o (yielded ops a'.tmps) = Region.wanted o (yielded ops a.tmps)) (hb : ∀ w, o.about P w a'.eval = o.about P w a.eval) : YieldsC P ops C o v a' :=
  ⟨by rw [hw]; exact hy.1, fun w hw' => by rw [he]; exact hy.2.1 w hw', fun w => by rw [hb w]; exact hy.2.2 w⟩
theorem YieldsC.opIn {i : Nat} {o : Oper} {v : Value} {a : Act} {w : World} (hnd : ∀ c, o.op ≠ .defer c) (hi : ops[i]? = some o) (hy : YieldsC P ops C o v a) (hC : C w) {K : Act → World → Prop} (h : K (a.put o.dst v) w) : wpOpIn F m P ops Q i K a w := by
  unfold wpOpIn
  simp only [hi, hy.1, if_true]
  unfold Oper.wpIn
  rw [Oper.semAt_plain F _ _ hnd, hy.2.1 w hC]
  exact ⟨fun f hf => (by rw [hy.2.2 w] at hf; cases hf), h⟩

theorem opIn_put {j : Nat} {oi oj : Oper} {v : Value} (hnd : ∀ c, oj.op ≠ .defer c) (hj : ops[j]? = some oj) (hap : oi.apart ops oj = true)
    (hsi : ∀ cs b, oi.op ≠ .select cs b) (hsj : ∀ cs b, oj.op ≠ .select cs b)
    (hQ : ∀ c a w, Q (.panic c) (a.put oi.dst v) w → Q (.panic c) a w) {K : Act → World → Prop} {a : Act} {w : World}
    (hy : YieldsC P ops C oi v a) (h : wpOpIn F m P ops Q j K (a.put oi.dst v) w) :
    wpOpIn F m P ops Q j (fun a' w' => YieldsC P ops C oi v a' ∧ K (a'.put oi.dst v) w') a w := by
  obtain ⟨h1, h2, h3⟩ := Oper.apart_spec hap
  have keep : ∀ (a : Act), YieldsC P ops C oi v a → ∀ u, YieldsC P ops C oi v (a.put oj.dst u) := fun a hy u =>
    hy.of_same (execOp_put oi hsi a oj.dst u h3) (wanted_put oi a oj.dst u h3) (fun w => about_put oi w a oj.dst u h3)
  have keepD : ∀ d, YieldsC P ops C oi v { a with defers := d :: a.defers } := fun d => hy.of_same rfl rfl (fun _ => rfl)
  unfold wpOpIn at *
  simp only [hj] at *
  rw [wanted_put oj a oi.dst v h1, about_put oj w a oi.dst v h1] at h
  split
  · rename_i hw
    simp only [hw, if_true] at h
    unfold Oper.wpIn at *
    rw [about_put oj w a oi.dst v h1] at h
    refine ⟨h.1, ?_⟩
    have h := h.2
    rw [Oper.semAt_plain F _ _ hnd, execOp_put oj hsj a oi.dst v h1] at h
    rw [Oper.semAt_plain F _ _ hnd]
    generalize (execOp a.eval oj).run P w = r at *
    cases r with
    | ok x w' =>
      cases x <;> simp only [Oper.uponIn] at h ⊢
      case value u => exact ⟨keep a hy u, by rw [← Act.put_comm a v u h2]; exact h⟩
      case skip => exact ⟨keep a hy _, by rw [← Act.put_comm a v undef h2]; exact h⟩
      case defer d =>
        refine ⟨keep _ (keepD d) _, ?_⟩
        rw [← Act.put_comm _ v undef h2, ← Act.put_defers]
        exact h
      case enter f args =>
        refine ⟨h.1, CallsIn.mono h.2 fun e w'' he => ?_⟩
        cases e with
        | returned u => exact ⟨keep a hy u, by rw [← Act.put_comm a v u h2]; exact he⟩
        | panicked c => exact hQ _ _ _ he
        | outgrown => exact he
      case row row args => exact ⟨h.1, RowsIn.mono h.2 fun u w'' he => ⟨keep a hy u, by rw [← Act.put_comm a v u h2]; exact he⟩⟩
      case round l f tmps assign body =>
        refine ⟨h.1, RoundIn.mono h.2 fun e w'' he => ?_⟩
        cases e with
        | returned u => exact ⟨keep a hy u, by rw [← Act.put_comm a v u h2]; exact he⟩
        | panicked c => exact hQ _ _ _ he
        | outgrown => exact he
    | halt x w' =>
      cases x <;> simp only [Oper.uponIn] at h ⊢
      case panic u => exact hQ _ _ _ h
  · rename_i hw
    simp only [hw] at h
    exact ⟨h.1, keep a hy _, by rw [← Act.put_comm a v undef h2]; exact h.2⟩

/-- The operations that wait for i. -/
def waitsOn (md : Region.Mode) (ops : Array Oper) (i : Nat) : Nat → List Nat → List Nat
  | 0, W => W
  | n + 1, W => waitsOn md ops i n ((List.range ops.size).filter fun j => match ops[j]? with | some oj => oj.after.any (fun e => Region.binds md e && (e.on == i || W.contains e.on)) | none => false)
/-- No operation that is late can come up before i. -/
def waitB (md : Region.Mode) (ops : Array Oper) (E : Nat → Bool) (W : List Nat) (i : Nat) (listed : Array Bool) : Bool :=
  (W.all fun j => !(listed.getD j false)) && (W.all fun j => match ops[j]? with | some oj => oj.after.any (fun e => Region.binds md e && (e.on == i || W.contains e.on)) | none => false) && (List.range ops.size).all fun j => E j || W.contains j
theorem waitB_spec {i : Nat} {W : List Nat} {listed : Array Bool} (h : waitB md ops E W i listed = true) :
    (∀ j ∈ W, listed.getD j false = false) ∧ (∀ j ∈ W, ∀ oj, ops[j]? = some oj → ∃ e ∈ oj.after, Region.binds md e = true ∧ (e.on = i ∨ e.on ∈ W)) ∧ ∀ j oj, ops[j]? = some oj → E j = false → j ∈ W := by
  unfold waitB at h
  rw [Bool.and_eq_true, Bool.and_eq_true, List.all_eq_true, List.all_eq_true, List.all_eq_true] at h
  obtain ⟨⟨h1, h2⟩, h3⟩ := h
  refine ⟨fun j hj => by simpa using h1 j hj, fun j hj oj ho => ?_, fun j oj ho hE => ?_⟩
  · have h4 := h2 j hj
    rw [ho] at h4
    obtain ⟨e, he, hb⟩ := Array.any_eq_true'.1 h4
    simp only [Bool.and_eq_true, Bool.or_eq_true, beq_iff_eq, List.contains_iff_mem] at hb
    exact ⟨e, he, hb.1, hb.2⟩
  · have h4 := h3 j (List.mem_range.2 (Array.getElem?_eq_some_iff.1 ho).1)
    rw [hE, Bool.false_or, List.contains_iff_mem] at h4
    exact h4

theorem anyE_first {i : Nat} {oi : Oper} {v : Value} (hnd : ∀ (j : Nat) (o : Oper), ops[j]? = some o → ∀ c, o.op ≠ .defer c) (hi : ops[i]? = some oi) (hsel : ∀ (j : Nat) (o : Oper) cs b, ops[j]? = some o → o.op ≠ .select cs b)
    (hQ : ∀ c a w, Q (.panic c) (a.put oi.dst v) w → Q (.panic c) a w) {W : List Nat} (hw1 : ∀ j ∈ W, ∀ oj, ops[j]? = some oj → ∃ e ∈ oj.after, Region.binds md e = true ∧ (e.on = i ∨ e.on ∈ W)) (hw2 : ∀ j oj, ops[j]? = some oj → E j = false → j ∈ W) :
    ∀ (f : Nat) (listed : Array Bool) (a : Act) (w : World), C w →
      (∀ j oj, ops[j]? = some oj → j ≠ i → listed.getD j true = false → (∀ e ∈ oj.after, Region.binds md e = true → e.on ≠ i) → oi.apart ops oj = true) →
      (∀ j ∈ W, listed.getD j false = false) →
      i ∈ Region.ready md ops listed → YieldsC P ops C oi v a →
      anyE F m P md ops Q E C f (listed.setIfInBounds i true) (a.put oi.dst v) w → anyE F m P md ops Q E C (f + 1) listed a w := by
  intro f
  induction f with
  | zero =>
    intro listed a w hC _ _ hr hy H
    refine ⟨fun h => (by rw [h] at hr; cases hr), fun j hj => ?_⟩
    by_cases hji : j = i
    · subst hji; exact hy.opIn (hnd j oi hi) hi hC ⟨fun _ => hC, H⟩
    · have := ready_mono hj hji
      rw [H.1] at this
      cases this
  | succ f ih =>
    intro listed a w hC hfree inv hr hy H
    refine ⟨fun h => (by rw [h] at hr; cases hr), fun j hj => ?_⟩
    by_cases hji : j = i
    · subst hji; exact hy.opIn (hnd j oi hi) hi hC ⟨fun _ => hC, H⟩
    · have h1 := H.2 j (ready_mono hj hji)
      obtain ⟨hjun, oj, hoj, hall⟩ := mem_ready.1 hj
      have hun := (mem_ready.1 hr).1
      have hnot : ∀ e ∈ oj.after, Region.binds md e = true → e.on ≠ i := fun e he hb heq => by
        have h2 := hall e he hb
        rw [heq, getD_both hun] at h2
        cases h2
      have hjW : j ∉ W := fun hW => by
        obtain ⟨e, he, hb, h2⟩ := hw1 j hW oj hoj
        rcases h2 with h2 | h2
        · exact absurd h2 (hnot e he hb)
        · have h3 := hall e he hb
          rw [inv _ h2] at h3
          cases h3
      have hEj : E j = true := by
        cases hE : E j with
        | true => rfl
        | false => exact absurd (hw2 j oj hoj hE) hjW
      have h2 := opIn_put (hnd j oj hoj) hoj (hfree j oj hoj hji hjun hnot) (fun cs b => hsel i oi cs b hi) (fun cs b => hsel j oj cs b hoj) hQ hy h1
      have hfree' : ∀ k ok, ops[k]? = some ok → k ≠ i → (listed.setIfInBounds j true).getD k true = false → (∀ e ∈ ok.after, Region.binds md e = true → e.on ≠ i) → oi.apart ops ok = true := fun k ok hk hki hku hno => by
        refine hfree k ok hk hki ?_ hno
        by_cases hjk : j = k
        · subst hjk; exact hjun
        · rwa [getD_set_ne true hjk] at hku
      have inv' : ∀ k ∈ W, (listed.setIfInBounds j true).getD k false = false := fun k hk => by
        have hjk : j ≠ k := fun e => hjW (by rw [e]; exact hk)
        rw [getD_set_ne false hjk]
        exact inv k hk
      refine wpOpIn_mono (fun a' w' h3 => ⟨h3.2.1, ih (listed.setIfInBounds j true) a' w' (h3.2.1 hEj) hfree' inv' (ready_mono hr (Ne.symm hji)) h3.1 ?_⟩) h2
      rw [Array.setIfInBounds_comm _ _ hji]
      exact h3.2.2

/-- The readers, in an order in which each is ready. -/
def heldB (md : Region.Mode) (ops : Array Oper) (E : Nat → Bool) : List Nat → Array Bool → Bool
  | [], _ => true
  | i :: l, listed => (Region.ready md ops listed).contains i && Region.free md ops listed i && waitB md ops E (waitsOn md ops i ops.size []) i listed && E i && (match ops[i]? with | some o => mildB o.op && o.guard.isNone | none => false) && heldB md ops E l (listed.setIfInBounds i true)
def tailB (md : Region.Mode) (ops : Array Oper) : List Nat → Array Bool → Bool
  | [], listed => (Region.ready md ops listed).isEmpty
  | k :: l, listed => decide (Region.ready md ops listed = [k]) && tailB md ops l (listed.setIfInBounds k true)
def takenB : List Nat → Array Bool → Array Bool
  | [], listed => listed
  | i :: l, listed => takenB l (listed.setIfInBounds i true)
def wpTail (F : Fence) (m : Nat) (P : Program) (ops : Array Oper) (Q : Exit → Act → World → Prop) (E : Nat → Bool) (C : World → Prop) : List Nat → Act → World → Prop
  | [], a, w => Q .normal a w
  | k :: l, a, w => wpOpIn F m P ops Q k (fun a' w' => (E k = true → C w') ∧ wpTail F m P ops Q E C l a' w') a w
theorem anyE_of_tail : ∀ (l : List Nat) (listed : Array Bool) (a : Act) (w : World), tailB md ops l listed = true → wpTail F m P ops Q E C l a w → anyE F m P md ops Q E C l.length listed a w
  | [], _, _, _, hB, h => ⟨by simpa [tailB] using hB, h⟩
  | k :: l, listed, a, w, hB, h => by
    simp only [tailB, Bool.and_eq_true, decide_eq_true_eq] at hB
    refine ⟨fun h1 => (by rw [hB.1] at h1; cases h1), fun i hi => ?_⟩
    rw [hB.1] at hi
    have hik : i = k := by simpa using hi
    subst hik
    exact wpOpIn_mono (fun a' w' h' => ⟨h'.1, anyE_of_tail l _ a' w' hB.2 h'.2⟩) h
theorem anyE_lex {T : List Nat} {w : World} (hnd : ∀ (j : Nat) (o : Oper), ops[j]? = some o → ∀ c, o.op ≠ .defer c) (hsel : ∀ (j : Nat) (o : Oper) cs b, ops[j]? = some o → o.op ≠ .select cs b) (hQ : ∀ c a d v w, Q (.panic c) (Act.put a d v) w → Q (.panic c) a w) (hC : C w) :
    ∀ (H : List Nat) (listed : Array Bool) (a : Act), heldB md ops E H listed = true → tailB md ops T (takenB H listed) = true →
      wpQuiet P ops C (fun a' => wpTail F m P ops Q E C T a' w) (H.filterMap fun i => ops[i]?) a → anyE F m P md ops Q E C (H.length + T.length) listed a w
  | [], listed, a, _, hT, h => by
    rw [List.length_nil, Nat.zero_add]
    exact anyE_of_tail T listed a w hT h
  | i :: l, listed, a, hB, hT, h => by
    simp only [heldB, Bool.and_eq_true] at hB
    obtain ⟨⟨⟨⟨⟨hr, hf⟩, hw⟩, hEi⟩, hm⟩, hB'⟩ := hB
    cases hi : ops[i]? with
    | none => rw [hi] at hm; cases hm
    | some o =>
      rw [hi] at hm
      simp only [Bool.and_eq_true, Option.isNone_iff_eq_none] at hm
      have hr' : i ∈ Region.ready md ops listed := by simpa using hr
      rw [List.filterMap_cons, hi] at h
      have hq : qOp P ops C i (wpQuiet P ops C (fun a' => wpTail F m P ops Q E C T a' w) (l.filterMap fun i => ops[i]?)) a := by unfold qOp; simp only [hi]; exact h
      obtain ⟨v, hy, hK⟩ := yieldsIn_of_qOp hi hq
      have hwant : Region.wanted o (yielded ops a.tmps) = true := by simp [Region.wanted, hm.2]
      have hyC : YieldsC P ops C o v a := by
        refine ⟨hwant, fun w' hw' => ?_, fun w' => mild_about hm.1 P w' _⟩
        rcases hy with ⟨_, hy⟩ | ⟨h0, _⟩
        · have h1 := hy w' hw'
          unfold Oper.quietAt at h1
          cases hrun : (execOp a.eval o).run P w' with
          | ok x w2 =>
            obtain ⟨u, rfl⟩ := mild_value hm.1 hrun
            rw [hrun] at h1
            obtain ⟨rfl, rfl⟩ := h1
            rfl
          | halt x w2 => rw [hrun] at h1; exact h1.elim
        · rw [hwant] at h0; cases h0
      obtain ⟨w1, w2, w3⟩ := waitB_spec hw
      rw [List.length_cons, show l.length + 1 + T.length = (l.length + T.length) + 1 by omega]
      exact anyE_first hnd hi hsel (fun c a' w' => hQ c a' _ _ w') w2 w3 (l.length + T.length) listed a w hC (Region.free_spec hi hf) w1 hr' hyC
        (anyE_lex hnd hsel hQ hC l _ _ hB' hT hK)
def plainB (ops : Array Oper) : Bool := ops.all fun o => match o.op with | .defer _ => false | .select _ _ => false | _ => true
theorem plainB_spec (h : plainB ops = true) (j : Nat) (o : Oper) (hj : ops[j]? = some o) : (∀ c, o.op ≠ .defer c) ∧ ∀ cs b, o.op ≠ .select cs b := by
  have h1 := Array.all_eq_true_iff_forall_mem.1 h o (Array.mem_of_getElem? hj)
  refine ⟨fun c e => ?_, fun cs b e => ?_⟩ <;> rw [e] at h1 <;> cases h1
theorem wpIn_region_held' {id : Nat} {a : Act} {w : World} (H T : List Nat) (L : List Nat) (C : World → Prop) (hm : P.follows .mixedOrders = true) (hp : plainB ops = true)
    (hn : H.length + T.length = ops.size) (hH : heldB .any ops (fun j => !L.contains j) H (Array.replicate ops.size false) = true) (hT : tailB .any ops T (takenB H (Array.replicate ops.size false)) = true)
    (hQ : ∀ c a d v w, Q (.panic c) (Act.put a d v) w → Q (.panic c) a w) (hC : C w.drew)
    (h : wpQuiet P ops C (fun a' => wpTail F m P ops Q (fun j => !L.contains j) C T a' w.drew) (H.filterMap fun i => ops[i]?) a) : (Code.region id ops true).wpIn F m P Q a w := by
  refine wpIn_region_any hm ?_
  rw [← hn]
  refine anyIn_of_anyE _ _ _ _ (anyE_lex (E := fun j => !L.contains j) (C := C) (fun j o hj => (plainB_spec hp j o hj).1) (fun j o cs b hj => (plainB_spec hp j o hj).2 cs b) hQ hC H _ a ?_ ?_ h)
  · rw [hn]; exact hH
  · rw [hn]; exact hT
theorem wpIn_region_held {id : Nat} {a : Act} {w : World} (H T : List Nat) (L : List Nat) (C : World → Prop) (hm : P.follows .mixedOrders = true) (hp : plainB ops = true)
    (hn : H.length + T.length = ops.size) (hH : heldB .any ops (fun j => !L.contains j) H (Array.replicate ops.size false) = true) (hT : tailB .any ops T (takenB H (Array.replicate ops.size false)) = true)
    (hQ : ∀ c a a' w, Q (.panic c) a w → Q (.panic c) a' w) (hC : C w.drew)
    (h : wpQuiet P ops C (fun a' => wpTail F m P ops Q (fun j => !L.contains j) C T a' w.drew) (H.filterMap fun i => ops[i]?) a) : (Code.region id ops true).wpIn F m P Q a w :=
  wpIn_region_held' H T L C hm hp hn hH hT (fun c a _ _ w hh => hQ c _ a w hh) hC h
theorem put_defers (a : Act) (d : Option Nat) (v : Value) : (a.put d v).defers = a.defers := by cases d <;> rfl
theorem wpTail_nil {a : Act} {w : World} (h : Q .normal a w) : wpTail F m P ops Q E C [] a w := h
/-- What follows, where nothing panics. -/
def calmQ (Q : Exit → Act → World → Prop) : Exit → Act → World → Prop := fun e a w => (∀ c, e ≠ .panic c) ∧ Q e a w
theorem wpIn_region_calm {id : Nat} {a : Act} {w : World} (H T : List Nat) (L : List Nat) (C : World → Prop) (hm : P.follows .mixedOrders = true) (hp : plainB ops = true)
    (hn : H.length + T.length = ops.size) (hH : heldB .any ops (fun j => !L.contains j) H (Array.replicate ops.size false) = true) (hT : tailB .any ops T (takenB H (Array.replicate ops.size false)) = true)
    (hC : C w.drew)
    (h : wpQuiet P ops C (fun a' => wpTail F m P ops (calmQ Q) (fun j => !L.contains j) C T a' w.drew) (H.filterMap fun i => ops[i]?) a) : (Code.region id ops true).wpIn F m P Q a w :=
  wpIn_mono (wpIn_region_held' H T L C hm hp hn hH hT (fun c _ _ _ _ hh => absurd rfl (hh.1 c)) hC h) fun _ _ _ hh => hh.2
theorem wpTail_calm {a : Act} {w : World} (h : Q .normal a w) : wpTail F m P ops (calmQ Q) E C [] a w := ⟨fun _ e => (by cases e), h⟩
theorem wpTail_cons {k : Nat} {l : List Nat} {o : Oper} {a : Act} {w : World} (ho : ops[k]? = some o) (hg : o.guard = none)
    (h : ∀ K : Act → World → Prop, (∀ a' w', (E k = true → C w') → wpTail F m P ops Q E C l a' w' → K a' w') → o.wpIn F m P a w K Q) : wpTail F m P ops Q E C (k :: l) a w := by
  show wpOpIn F m P ops Q k _ a w
  unfold wpOpIn
  have hw : Region.wanted o (yielded ops a.tmps) = true := by simp [Region.wanted, hg]
  simp only [ho, hw, if_true]
  exact h _ fun _ _ h1 h2 => ⟨h1, h2⟩
end

theorem wpIn_append_lies {F : Fence} {n : Nat} {P : Program} (w : World) {o : Oper} {a : Act} {K : Act → World → Prop} {Q : Exit → Act → World → Prop} (s x : Operand) (t : TypeId)
    (ho : o.op = .call { callee := .builtin .append, args := #[s, x], argTypes := #[t, t] })
    (base : Nat) (e : TypeId) (i : TypeInfo) (z : Value) (size bytes : Nat) (ht : P.underlying t = some (.slice e)) (hi : P.info? e = some i) (hz : i.zero = some z)
    (hsize : i.size = size) (hby : i.bytes = bytes) (hzs : z.cells.size = size) (hsz : 0 < size)
    (v : Value) (k : Nat) (xs : List Value) (hs : a.eval s = v) (hown : w.ownsRow base e size v k xs)
    (ad : Addr) (m c : Nat) (news : List Value) (hx : a.eval x = .slice (some ad) m c) (hl : news.length = m * size) (hnews : ∀ j u, news[j]? = some u → w.cell? (ad.add j) = some u) (h1 : ∀ u ∈ news, u.oneCell' = true)
    (hm : 0 < m) (h63 : k + m ≤ maxLen) (hbytes : (k + m) * bytes ≤ 140737488355328) (hbase : base ≤ w.heap.size)
    (h : ∀ g cap w', w'.ownsRow base e size (.slice (some ⟨g, 0, none⟩) (k + m) cap) (k + m) (xs ++ news) → w.grownBy w' v.ownBlock → (v.ownBlock = some g ∨ g = w.heap.size) → g < w'.heap.size → K (a.put o.dst (.slice (some ⟨g, 0, none⟩) (k + m) cap)) w') : o.wpIn F n P a w K Q := by
  obtain ⟨g, cap, w', hrun, h2, h3, h4, h5⟩ := run_append_lies (P := P) w t o.type base e i z size bytes ht hi hz hsize hby hzs hsz v k xs hown ad m c news hl hnews h1 hm h63 hbytes hbase _ rfl
  unfold Oper.wpIn
  refine ⟨?_, ?_⟩
  · simp [Oper.about, ho, resolve, Target.leads, Sem.run_pure]
  · rw [Oper.semAt_plain F _ _ (by rw [ho]; intro c hc'; cases hc')]
    simp only [execOp, ho, resolve, invoke, builtin, Sem.run_bind, Sem.run_pure, Result.andThen_ok, List.map_toArray, List.map_cons, List.map_nil, hs, hx, hrun]
    exact h g cap w' h2 h3 h4 h5

end Go.Proofs.YtfkejnnbfneieaaGreatDoor
