/- A region that draws its order: operations that only read and calls that only make memory, beside them new cells that are filled from the results, and behind them operations that hand results on. -/
import Derived.Test.YtapjnbofhdljfaaFresh
namespace Go.Proofs.Ytapjnbofhdljfaa
open Go.RowKit

theorem all_of_readyT {ops : Array Oper} {md : Region.Mode} {listed : Array Bool} (hz : listed.size = ops.size) (hb : ∀ (i : Nat) (o : Oper), ops[i]? = some o → ∀ e ∈ o.after, Region.binds md e = true → e.on < i) (hr : Region.ready md ops listed = []) :
    ∀ i, i < ops.size → listed.getD i false = true := by
  intro i
  induction i using Nat.strongRecOn with
  | _ i ih =>
    intro hi
    cases hl : listed.getD i false with
    | true => rfl
    | false =>
      have hm : i ∈ Region.ready md ops listed := mem_ready.2 ⟨by simp [hz, hi] at hl ⊢; exact hl, ops[i], Array.getElem?_eq_getElem hi, fun e he hbe => ih e.on (hb i _ (Array.getElem?_eq_getElem hi) e he hbe) (Nat.lt_trans (hb i _ (Array.getElem?_eq_getElem hi) e he hbe) hi)⟩
      rw [hr] at hm
      cases hm

/-- The form of such a region: n operations that only read or call, then m new cells, then m stores, one into each, then p operations that hand on what the first ones have found. -/
def freshTB (ops : Array Oper) (n m p N : Nat) : Bool :=
  decide (ops.size = n + m + m + p) && Region.noSelect ops && ops.all (fun o => o.guard.isNone) &&
  (List.range ops.size).all (fun i => match ops[i]? with | some o => o.after.all (fun e => !(Region.binds .any e) || decide (e.on < i)) | none => true) &&
  (List.range ops.size).all (fun i => (List.range ops.size).all fun j => i == j || (dstOf ops i).isNone || dstOf ops j != dstOf ops i) &&
  (List.range n).all (fun i => (match dstOf ops i with | some d => decide (d < N) | none => false) && match ops[i]? with
    | some o => (o.looksAt ops).all fun s => (List.range ops.size).all fun j => dstOf ops j != some s || (decide (j < i) && Region.waitsFor .any ops i j)
    | none => false) &&
  (List.range m).all (fun k => (match dstOf ops (n + k) with | some d => decide (d < N) | none => false) && (dstOf ops (n + m + k)).isNone && Region.waitsFor .any ops (n + m + k) (n + k) && match ops[n + m + k]? with
    | some o => (o.looksAt ops).all fun s => dstOf ops (n + k) == some s || (List.range ops.size).all fun j => dstOf ops j != some s || (decide (j < n) && Region.waitsFor .any ops (n + m + k) j)
    | none => false) &&
  (List.range p).all (fun k => (match dstOf ops (n + m + m + k) with | some d => decide (d < N) | none => false) && match ops[n + m + m + k]? with
    | some o => (o.looksAt ops).all fun s => (List.range ops.size).all fun j => dstOf ops j != some s || (decide (j < n) && Region.waitsFor .any ops (n + m + m + k) j)
    | none => false)

structure FreshTForm (ops : Array Oper) (n m p N : Nat) : Prop where
  size : ops.size = n + m + m + p
  noSelect : Region.noSelect ops = true
  guards : ∀ (i : Nat) (o : Oper), ops[i]? = some o → o.guard = none
  back : ∀ (i : Nat) (o : Oper), ops[i]? = some o → ∀ e ∈ o.after, Region.binds .any e = true → e.on < i
  apart : ∀ i j, j ≠ i → ∀ d, dstOf ops i = some d → dstOf ops j ≠ some d
  quietDst : ∀ i, i < n → ∃ d, dstOf ops i = some d ∧ d < N
  quietSees : ∀ (i : Nat) (o : Oper), i < n → ops[i]? = some o → ∀ s ∈ o.looksAt ops, ∀ j, dstOf ops j = some s → j < i ∧ Region.waitsFor .any ops i j = true
  cellDst : ∀ k, k < m → ∃ d, dstOf ops (n + k) = some d ∧ d < N
  storeDst : ∀ k, k < m → dstOf ops (n + m + k) = none
  storeWaits : ∀ k, k < m → Region.waitsFor .any ops (n + m + k) (n + k) = true
  storeSees : ∀ (k : Nat) (o : Oper), k < m → ops[n + m + k]? = some o → ∀ s ∈ o.looksAt ops, dstOf ops (n + k) ≠ some s → ∀ j, dstOf ops j = some s → j < n ∧ Region.waitsFor .any ops (n + m + k) j = true
  trailSees : ∀ (k : Nat) (o : Oper), k < p → ops[n + m + m + k]? = some o → ∀ s ∈ o.looksAt ops, ∀ j, dstOf ops j = some s → j < n ∧ Region.waitsFor .any ops (n + m + m + k) j = true

theorem freshTForm {ops : Array Oper} {n m p N : Nat} (h : freshTB ops n m p N = true) : FreshTForm ops n m p N := by
  unfold freshTB at h
  simp only [Bool.and_eq_true, decide_eq_true_eq, List.all_eq_true, List.mem_range, Array.all_eq_true_iff_forall_mem] at h
  obtain ⟨⟨⟨⟨⟨⟨⟨h1, h2⟩, h3⟩, h4⟩, h5⟩, h6⟩, h7⟩, h8⟩ := h
  have lt : ∀ {i : Nat} {o : Oper}, ops[i]? = some o → i < ops.size := fun ho => (Array.getElem?_eq_some_iff.1 ho).1
  refine ⟨h1, h2, ?_, ?_, ?_, ?_, ?_, ?_, ?_, ?_, ?_, ?_⟩
  · intro i o ho
    have := h3 o (Array.mem_of_getElem? ho)
    simpa using this
  · intro i o ho e he hbe
    have := h4 i (lt ho)
    simp only [ho, Array.all_eq_true_iff_forall_mem] at this
    have := this e he
    rw [hbe] at this
    simpa using this
  · intro i j hij d hd hd'
    have := h5 i (dstOf_lt hd) j (dstOf_lt hd')
    simp [hd, hd'] at this
    exact hij this.symm
  · intro i hi
    have := (h6 i hi).1
    cases hd : dstOf ops i with
    | none => simp [hd] at this
    | some d => exact ⟨d, rfl, by simpa [hd] using this⟩
  · intro i o hi ho s hs j hj
    have := (h6 i hi).2
    simp only [ho, List.all_eq_true, List.mem_range] at this
    have := this s hs j (dstOf_lt hj)
    simp [hj] at this
    exact this
  · intro k hk
    have := (h7 k hk).1.1.1
    cases hd : dstOf ops (n + k) with
    | none => simp [hd] at this
    | some d => exact ⟨d, rfl, by simpa [hd] using this⟩
  · intro k hk
    simpa using (h7 k hk).1.1.2
  · intro k hk
    exact (h7 k hk).1.2
  · intro k o hk ho s hs hns j hj
    have := (h7 k hk).2
    simp only [ho, List.all_eq_true, List.mem_range, Bool.or_eq_true] at this
    have := (this s hs).resolve_left (by simpa using hns)
    have := this j (dstOf_lt hj)
    simp [hj] at this
    exact this
  · intro k o hk ho s hs j hj
    have := (h8 k hk).2
    simp only [ho, List.all_eq_true, List.mem_range, Bool.or_eq_true] at this
    have := this s hs j (dstOf_lt hj)
    simp [hj] at this
    exact this

/-- What the operations at the end put into their slots. -/
def trailing (ops : Array Oper) (s : Nat) (U : Nat → Value) : Nat → Act → Act
  | 0, a => a
  | k + 1, a => (trailing ops s U k a).put (dstOf ops (s + k)) (U k)

structure FreshTInv (ops : Array Oper) (n m p : Nat) (W : World) (V U : Nat → Value) (zs cs : Nat → Array Value) (a0 : Act) (listed : Array Bool) (A : Act) (w : World) (e : Ent) (b : Nat → Nat) : Prop where
  size : listed.size = ops.size
  act : A = fillTo ops e ops.size a0
  ent : ∀ i, i < ops.size → ((e i).isSome = listed.getD i false)
  far : ∀ i, ops.size ≤ i → e i = none
  vals : ∀ i, i < n → e i = none ∨ e i = some (V i)
  below : Below W.heap.size W w
  ptr : ∀ k, k < m → e (n + k) ≠ none → e (n + k) = some (.pointer (some ⟨b k, 0, none⟩)) ∧ W.heap.size ≤ b k ∧ b k < w.heap.size ∧
    ∀ i, i < (zs k).size → w.cell? ⟨b k, i, none⟩ = (if e (n + m + k) = none then zs k else cs k)[i]? ∧ w.frozen? ⟨b k, i, none⟩ = false
  other : ∀ k k', k < m → k' < m → e (n + k) ≠ none → e (n + k') ≠ none → k ≠ k' → b k ≠ b k'
  sto : ∀ k, k < m → e (n + m + k) ≠ none → e (n + k) ≠ none
  trail : ∀ k, k < p → e (n + m + m + k) = none ∨ e (n + m + m + k) = some (U k)

theorem entT_none {ops : Array Oper} {n m p : Nat} {W : World} {V U : Nat → Value} {zs cs : Nat → Array Value} {a0 : Act} {listed : Array Bool} {A : Act} {w : World} {e : Ent} {b : Nat → Nat}
    (h : FreshTInv ops n m p W V U zs cs a0 listed A w e b) {i : Nat} (hl : listed.getD i true = false) : e i = none := by
  have hi := getD_lt hl
  have := h.ent i (by rw [← h.size]; exact hi)
  rw [getD_tt hl] at this
  cases he : e i with
  | none => rfl
  | some v => rw [he] at this; cases this
theorem entT_some {ops : Array Oper} {n m p : Nat} {W : World} {V U : Nat → Value} {zs cs : Nat → Array Value} {a0 : Act} {listed : Array Bool} {A : Act} {w : World} {e : Ent} {b : Nat → Nat}
    (h : FreshTInv ops n m p W V U zs cs a0 listed A w e b) {i : Nat} (hl : listed.getD i false = true) (hi : i < ops.size) : e i ≠ none := by
  have := h.ent i hi
  rw [hl] at this
  intro he
  rw [he] at this
  cases this

theorem wp_region_freshT {P : Program} {id : Nat} {Q : Exit → Act → World → Prop} {a : Act} {W : World} {l : List Oper} (n m p N : Nat) (zs cs : Nat → Array Value) (U : Nat → Value) (Af : Act)
    (hm : P.follows .mixedOrders = true) (hB : freshTB l.toArray n m p N = true) (hN : a.tmps.size = N)
    (hq : ∀ w0, Below W.heap.size W w0 → wpQuiet P l.toArray (fun w' => ∃ x : Grown w0, w' = x.w) (fun a' => a' = Af) (l.take n) a)
    (hal : ∀ k, k < m → ∀ o, l[n + k]? = some o → ∃ T, ∀ ρ w', (execOp ρ o).run P w' = .ok (.value (.pointer (some ⟨w'.heap.size, 0, none⟩))) (w'.alloc (.cells (zs k) T)))
    (hst : ∀ k, k < m → ∀ o, l[n + m + k]? = some o → ∀ (A : Act) (b : Nat) w', (∀ s, dstOf l.toArray (n + k) = some s → A.eval (.tmp s) = .pointer (some ⟨b, 0, none⟩)) →
      (∀ s, s ∈ o.looksAt l.toArray → dstOf l.toArray (n + k) ≠ some s → A.eval (.tmp s) = Af.eval (.tmp s)) → W.heap.size ≤ b →
      (∀ i, i < (zs k).size → w'.cell? ⟨b, i, none⟩ = (zs k)[i]? ∧ w'.frozen? ⟨b, i, none⟩ = false) →
      ∃ w'', (execOp A.eval o).run P w' = .ok .skip w'' ∧ w''.heap.size = w'.heap.size ∧ Below W.heap.size w' w'' ∧ (∀ i, i < (zs k).size → w''.cell? ⟨b, i, none⟩ = (cs k)[i]? ∧ w''.frozen? ⟨b, i, none⟩ = false) ∧
        (∀ c i, c ≠ b → w''.cell? ⟨c, i, none⟩ = w'.cell? ⟨c, i, none⟩ ∧ w''.frozen? ⟨c, i, none⟩ = w'.frozen? ⟨c, i, none⟩))
    (htr : ∀ k, k < p → ∀ o, l[n + m + m + k]? = some o → ∀ (A : Act) w', (∀ s, s ∈ o.looksAt l.toArray → A.eval (.tmp s) = Af.eval (.tmp s)) → (execOp A.eval o).run P w' = .ok (.value (U k)) w')
    (hend : ∀ b w', Cells W w' m (fun k => (zs k).size) (fun k i => (cs k)[i]?) b → Q .normal (trailing l.toArray (n + m + m) U p (ptrs l.toArray n b m Af)) w') : (Code.region id l.toArray true).wp P Q a W := by
  have F := freshTForm hB
  obtain ⟨ops, hops⟩ : ∃ ops : Array Oper, ops = l.toArray := ⟨_, rfl⟩
  have hget : ∀ i : Nat, l[i]? = ops[i]? := fun i => by rw [hops, List.getElem?_toArray]
  rw [← hops] at F hq hend hst htr ⊢
  have hsz : ops.size = n + m + m + p := F.size
  -- the values of the operations that only read or call
  have hvals : ∀ w0, Below W.heap.size W w0 → ∃ vs : Nat → Value, (∀ i o, i < n → ops[i]? = some o → YieldsIn P ops (fun w' => ∃ x : Grown w0, w' = x.w) o (vs i) (fillTo ops (fun i => some (vs i)) i a)) ∧ fillTo ops (fun i => some (vs i)) n a = Af := by
    intro w0 h0
    have hlen : (l.take n).length = n := by rw [List.length_take]; have : l.length = ops.size := by rw [hops]; simp
                                            omega
    obtain ⟨vs, _, g2, g3⟩ := quiet_values a n (l.take n) 0 (fun _ => undef) (by omega) (fun j hj => by rw [List.getElem?_take, if_pos (by omega), Nat.zero_add]; exact hget j) (hq w0 h0)
    exact ⟨vs, fun i o hi ho => g2 i o (Nat.zero_le _) hi ho, g3⟩
  have hV : ∀ vs : Nat → Value, fillTo ops (fun i => some (vs i)) n a = Af → ∀ i, i < n → ∃ d, dstOf ops i = some d ∧ vs i = Af.eval (.tmp d) := by
    intro vs hvs i hi
    obtain ⟨d, hd, hlt⟩ := F.quietDst i hi
    refine ⟨d, hd, ?_⟩
    rw [← hvs]
    exact (fill_at (e := fun i => some (vs i)) hi hd rfl hN hlt (fun j hj => F.apart i j hj)).symm
  let V : Nat → Value := fun i => match dstOf ops i with | some d => Af.eval (.tmp d) | none => undef
  have hVV : ∀ vs : Nat → Value, fillTo ops (fun i => some (vs i)) n a = Af → ∀ i, i < n → vs i = V i := by
    intro vs hvs i hi
    obtain ⟨d, hd, hv⟩ := hV vs hvs i hi
    show vs i = (match dstOf ops i with | some d => Af.eval (.tmp d) | none => undef)
    rw [hd]; exact hv
  refine wp_region_any hm (wpAny_inv (fun listed A w => ∃ e b, FreshTInv ops n m p W V U zs cs a listed A w e b) ?_ ?_ unlisted (fun listed i hi => unlisted_set (mem_ready.1 hi).1) _ _ _ _ ?_ ?_)
  · -- one operation
    rintro listed A w ⟨e, b, I⟩ i hi
    obtain ⟨hun, o, ho, _⟩ := mem_ready.1 hi
    have hlt : i < ops.size := (Array.getElem?_eq_some_iff.1 ho).1
    have hei := entT_none I hun
    have hdst : dstOf ops i = o.dst := by unfold dstOf; rw [ho]; rfl
    have hwant : ∀ A' : Act, Region.wanted o (yielded ops A'.tmps) = true := fun A' => by unfold Region.wanted; rw [F.guards i o ho]
    have hput : ∀ v, A.put o.dst v = fillTo ops (entUpd e i v) ops.size a := fun v => by rw [I.act, fill_upd ops v a hei (fun j hj => F.apart i j hj) _ hlt, hdst]
    have hfar : ∀ v j, ops.size ≤ j → entUpd e i v j = none := fun v j hj => by rw [entUpd_other e v (by omega)]; exact I.far j hj
    by_cases h1 : i < n
    · obtain ⟨vs, g1, g2⟩ := hvals w I.below
      have hy := g1 i o h1 ho
      have hsame : ∀ s ∈ o.looksAt ops, A.eval (.tmp s) = (fillTo ops (fun i => some (vs i)) i a).eval (.tmp s) := by
        intro s hs
        rw [I.act]
        refine (fill_eval ops s ops.size i a a rfl rfl (by omega) ?_ ?_).1
        · intro j hj hds
          have hw := (F.quietSees i o h1 ho s hs j hds).2
          have hl := waits_listed hi hw
          rcases I.vals j (by omega) with h | h
          · exact absurd h (entT_some I hl (by omega))
          · rw [h, hVV vs g2 j (by omega)]
        · intro j hj _ hds
          have := (F.quietSees i o h1 ho s hs j hds).1
          omega
      have hexec : execOp A.eval o = execOp (fillTo ops (fun i => some (vs i)) i a).eval o := by
        refine execOp_congr o (fun cs b => Region.noSelect_spec F.noSelect i o cs b ho) fun x hx => ?_
        cases x with
        | tmp s => exact hsame s (List.mem_append_left _ (List.mem_filterMap.2 ⟨.tmp s, by simpa using hx, rfl⟩))
        | _ => rfl
      have hy' : YieldsIn P ops (fun w' => ∃ x : Grown w, w' = x.w) o (vs i) A := hy.of_same hexec (by rw [hwant, hwant])
      refine wpOp_of_qOp (C := fun w' => ∃ x : Grown w, w' = x.w) ⟨⟨w, Below.refl _ _⟩, rfl⟩ (fun a' w' hC (hK : a' = A.put o.dst (vs i)) => ?_) (hy'.qOp ho rfl)
      obtain ⟨x, rfl⟩ := hC
      have hb := x.below
      refine ⟨entUpd e i (V i), b, by rw [Array.size_setIfInBounds]; exact I.size, ?_, inv_ent I.size I.ent hun, hfar _, ?_, I.below.trans (hb.mono I.below.size), ?_, ?_, ?_, fun j hj => by rw [entUpd_other e _ (by omega)]; exact I.trail j hj⟩
      · rw [hK, hVV vs g2 i h1, hput]
      · intro j hj
        by_cases hji : j = i
        · subst hji; rw [entUpd_same]; exact Or.inr rfl
        · rw [entUpd_other e _ hji]; exact I.vals j hj
      · intro k hk
        rw [entUpd_other e _ (by omega), entUpd_other e _ (by omega)]
        intro hne
        obtain ⟨p1, p2, p3, p4⟩ := I.ptr k hk hne
        refine ⟨p1, p2, Nat.lt_of_lt_of_le p3 hb.size, fun j hj => ?_⟩
        rw [hb.cell (p := ⟨b k, j, none⟩) p3, hb.frozen (p := ⟨b k, j, none⟩) p3]
        exact p4 j hj
      · intro k k' hk hk'
        rw [entUpd_other e _ (by omega), entUpd_other e _ (by omega)]
        exact I.other k k' hk hk'
      · intro k hk
        rw [entUpd_other e _ (by omega), entUpd_other e _ (by omega)]
        exact I.sto k hk
    · by_cases h2 : i < n + m
      · obtain ⟨k, rfl⟩ : ∃ k, i = n + k := ⟨i - n, by omega⟩
        have hk : k < m := by omega
        obtain ⟨T, hT⟩ := hal k hk o (by rw [hget]; exact ho)
        have hes : e (n + m + k) = none := by
          cases he : e (n + m + k) with
          | none => rfl
          | some v => exact absurd hei (I.sto k hk (by rw [he]; simp))
        unfold wpOp
        rw [ho]
        dsimp only
        rw [if_pos (hwant A)]
        refine Or.inl ?_
        unfold Oper.wp
        rw [hT A.eval w]
        show ∃ e b, _
        have hcell : ∀ c j, c < w.heap.size → (w.alloc (.cells (zs k) T)).cell? ⟨c, j, none⟩ = w.cell? ⟨c, j, none⟩ := fun c j hc => by rw [cell_alloc, if_neg (by omega)]
        have hfroz : ∀ c j, c < w.heap.size → (w.alloc (.cells (zs k) T)).frozen? ⟨c, j, none⟩ = w.frozen? ⟨c, j, none⟩ := fun c j hc => by rw [frozen_alloc, if_neg (by omega)]
        refine ⟨entUpd e (n + k) (.pointer (some ⟨w.heap.size, 0, none⟩)), fun j => if j = k then w.heap.size else b j, by rw [Array.size_setIfInBounds]; exact I.size, hput _, inv_ent I.size I.ent hun, hfar _, ?_, I.below.alloc I.below.size _, ?_, ?_, ?_, fun j hj => by rw [entUpd_other e _ (by omega)]; exact I.trail j hj⟩
        · intro j hj
          rw [entUpd_other e _ (by omega)]
          exact I.vals j hj
        · intro j hj
          by_cases hjk : j = k
          · subst hjk
            intro _
            rw [entUpd_same, entUpd_other e _ (by omega), if_pos rfl, hes]
            refine ⟨rfl, I.below.size, by rw [size_alloc]; omega, fun i hi => ?_⟩
            rw [cell_alloc, if_pos rfl, frozen_alloc, if_pos rfl, if_pos rfl]
            exact ⟨rfl, rfl⟩
          · rw [entUpd_other e _ (by omega), entUpd_other e _ (by omega), if_neg hjk]
            intro hne
            obtain ⟨p1, p2, p3, p4⟩ := I.ptr j hj hne
            refine ⟨p1, p2, by rw [size_alloc]; omega, fun i hi => ?_⟩
            rw [hcell _ _ p3, hfroz _ _ p3]
            exact p4 i hi
        · intro j j' hj hj'
          by_cases hjk : j = k <;> by_cases hjk' : j' = k
          · intro _ _ h
            omega
          · rw [entUpd_other e (i := n + k) (j := n + j') _ (by omega)]
            intro _ hne _
            have := (I.ptr j' hj' hne).2.2.1
            rw [if_pos hjk, if_neg hjk']
            omega
          · rw [entUpd_other e (i := n + k) (j := n + j) _ (by omega)]
            intro hne _ _
            have := (I.ptr j hj hne).2.2.1
            rw [if_neg hjk, if_pos hjk']
            omega
          · rw [entUpd_other e (i := n + k) (j := n + j') _ (by omega), entUpd_other e (i := n + k) (j := n + j) _ (by omega)]
            intro h1 h2 h3
            rw [if_neg hjk, if_neg hjk']
            exact I.other j j' hj hj' h1 h2 h3
        · intro j hj
          rw [entUpd_other e _ (by omega)]
          by_cases hjk : j = k
          · subst hjk
            intro h
            exact absurd hes h
          · rw [entUpd_other e _ (by omega)]
            exact I.sto j hj
      · by_cases h3 : i < n + m + m
        · obtain ⟨k, rfl⟩ : ∃ k, i = n + m + k := ⟨i - (n + m), by omega⟩
          have hk : k < m := by omega
          have hcl := entT_some I (waits_listed hi (F.storeWaits k hk)) (by omega)
          obtain ⟨p1, p2, p3, p4⟩ := I.ptr k hk hcl
          rw [if_pos hei] at p4
          have hV' : ∀ s, s ∈ o.looksAt ops → dstOf ops (n + k) ≠ some s → A.eval (.tmp s) = Af.eval (.tmp s) := by
            intro s hs hne
            obtain ⟨vs, g1, g2⟩ := hvals w I.below
            rw [I.act, ← g2]
            refine (fill_eval ops s ops.size n a a rfl rfl (by omega) ?_ ?_).1
            · intro j hj hds
              have hl := waits_listed hi (F.storeSees k o hk ho s hs hne j hds).2
              rcases I.vals j hj with h | h
              · exact absurd h (entT_some I hl (by omega))
              · rw [h, hVV vs g2 j hj]
            · intro j hj _ hds
              have := (F.storeSees k o hk ho s hs hne j hds).1
              omega
          have hP : ∀ s, dstOf ops (n + k) = some s → A.eval (.tmp s) = .pointer (some ⟨b k, 0, none⟩) := by
            intro s hs
            obtain ⟨d, hd, hlt'⟩ := F.cellDst k hk
            obtain rfl : d = s := Option.some.inj (hd.symm.trans hs)
            rw [I.act]
            exact fill_at (by omega) hd p1 hN hlt' (fun j hj => F.apart _ j hj)
          obtain ⟨w'', r1, r2, r3, r4, r5⟩ := hst k hk o (by rw [hget]; exact ho) A (b k) w hP hV' p2 p4
          unfold wpOp
          rw [ho]
          dsimp only
          rw [if_pos (hwant A)]
          refine Or.inl ?_
          unfold Oper.wp
          rw [r1]
          show ∃ e b, _
          refine ⟨entUpd e (n + m + k) undef, b, by rw [Array.size_setIfInBounds]; exact I.size, hput _, inv_ent I.size I.ent hun, hfar _, ?_, I.below.trans r3, ?_, ?_, ?_, fun j hj => by rw [entUpd_other e _ (by omega)]; exact I.trail j hj⟩
          · intro j hj
            rw [entUpd_other e _ (by omega)]
            exact I.vals j hj
          · intro j hj
            rw [entUpd_other e (i := n + m + k) (j := n + j) _ (by omega)]
            intro hne
            obtain ⟨q1, q2, q3, q4⟩ := I.ptr j hj hne
            refine ⟨q1, q2, by omega, fun i hii => ?_⟩
            by_cases hjk : j = k
            · subst hjk
              rw [entUpd_same, if_neg (by simp)]
              exact r4 i hii
            · rw [entUpd_other e _ (by omega), (r5 (b j) i (I.other j k hj hk hne hcl hjk)).1, (r5 (b j) i (I.other j k hj hk hne hcl hjk)).2]
              exact q4 i hii
          · intro j j' hj hj'
            rw [entUpd_other e (i := n + m + k) (j := n + j) _ (by omega), entUpd_other e (i := n + m + k) (j := n + j') _ (by omega)]
            exact I.other j j' hj hj'
          · intro j hj
            rw [entUpd_other e (i := n + m + k) (j := n + j) _ (by omega)]
            by_cases hjk : j = k
            · subst hjk; intro _; exact hcl
            · rw [entUpd_other e _ (by omega)]; exact I.sto j hj
        · obtain ⟨k, rfl⟩ : ∃ k, i = n + m + m + k := ⟨i - (n + m + m), by omega⟩
          have hk : k < p := by omega
          have hV' : ∀ s, s ∈ o.looksAt ops → A.eval (.tmp s) = Af.eval (.tmp s) := by
            intro s hs
            obtain ⟨vs, g1, g2⟩ := hvals w I.below
            rw [I.act, ← g2]
            refine (fill_eval ops s ops.size n a a rfl rfl (by omega) ?_ ?_).1
            · intro j hj hds
              have hl := waits_listed hi (F.trailSees k o hk ho s hs j hds).2
              rcases I.vals j hj with h | h
              · exact absurd h (entT_some I hl (by omega))
              · rw [h, hVV vs g2 j hj]
            · intro j hj _ hds
              have := (F.trailSees k o hk ho s hs j hds).1
              omega
          have hx := htr k hk o (by rw [hget]; exact ho) A w hV'
          unfold wpOp
          rw [ho]
          dsimp only
          rw [if_pos (hwant A)]
          refine Or.inl ?_
          unfold Oper.wp
          rw [hx]
          show ∃ e b, _
          refine ⟨entUpd e (n + m + m + k) (U k), b, by rw [Array.size_setIfInBounds]; exact I.size, hput _, inv_ent I.size I.ent hun, hfar _, ?_, I.below, ?_, ?_, ?_, ?_⟩
          · intro j hj
            rw [entUpd_other e _ (by omega)]
            exact I.vals j hj
          · intro j hj
            rw [entUpd_other e (i := n + m + m + k) (j := n + j) _ (by omega), entUpd_other e (i := n + m + m + k) (j := n + m + j) _ (by omega)]
            exact I.ptr j hj
          · intro j j' hj hj'
            rw [entUpd_other e (i := n + m + m + k) (j := n + j) _ (by omega), entUpd_other e (i := n + m + m + k) (j := n + j') _ (by omega)]
            exact I.other j j' hj hj'
          · intro j hj
            rw [entUpd_other e (i := n + m + m + k) (j := n + j) _ (by omega), entUpd_other e (i := n + m + m + k) (j := n + m + j) _ (by omega)]
            exact I.sto j hj
          · intro j hj
            by_cases hjk : j = k
            · subst hjk; rw [entUpd_same]; exact Or.inr rfl
            · rw [entUpd_other e _ (by omega)]; exact I.trail j hj
  · rintro listed A w ⟨e, b, I⟩ hr
    have hall := all_of_readyT I.size F.back hr
    have hne : ∀ i, i < ops.size → e i ≠ none := fun i hi => entT_some I (hall i hi) hi
    obtain ⟨vs, g1, g2⟩ := hvals w I.below
    have e1 : fillTo ops e n a = Af := by
      rw [← g2]
      refine fill_congr ops a n fun i hi => ?_
      rcases I.vals i hi with h | h
      · exact absurd h (hne i (by omega))
      · rw [h, hVV vs g2 i hi]
    have e2 : ∀ k, k ≤ m → fillTo ops e (n + k) a = ptrs ops n b k Af := by
      intro k
      induction k with
      | zero => intro _; exact e1
      | succ k ih =>
        intro hk
        rw [← Nat.add_assoc, fill_succ, (I.ptr k (by omega) (hne _ (by omega))).1, ih (by omega)]
        rfl
    have e3 : ∀ k, k ≤ m → fillTo ops e (n + m + k) a = ptrs ops n b m Af := by
      intro k
      induction k with
      | zero => intro _; exact e2 m (Nat.le_refl _)
      | succ k ih =>
        intro hk
        rw [← Nat.add_assoc, fill_succ, F.storeDst k (by omega), ih (by omega)]
        cases e (n + m + k) <;> rfl
    have e4 : ∀ k, k ≤ p → fillTo ops e (n + m + m + k) a = trailing ops (n + m + m) U k (ptrs ops n b m Af) := by
      intro k
      induction k with
      | zero => intro _; exact e3 m (Nat.le_refl _)
      | succ k ih =>
        intro hk
        have hs : e (n + m + m + k) = some (U k) := by
          rcases I.trail k (by omega) with h | h
          · exact absurd h (hne _ (by omega))
          · exact h
        rw [← Nat.add_assoc, fill_succ, hs, ih (by omega)]
        rfl
    rw [I.act, hsz, e4 p (Nat.le_refl _)]
    refine hend b w ⟨I.below, fun k hk => (I.ptr k hk (hne _ (by omega))).2.1, fun k hk => (I.ptr k hk (hne _ (by omega))).2.2.1, fun k hk i hi => ?_, fun k k' hk hk' h => I.other k k' hk hk' (hne _ (by omega)) (hne _ (by omega)) h⟩
    have := (I.ptr k hk (hne _ (by omega))).2.2.2 i hi
    rwa [if_neg (hne _ (by omega))] at this
  · unfold unlisted
    have := List.countP_le_length (p := (· == false)) (l := (Array.replicate ops.size false).toList)
    simpa using this
  · refine ⟨fun _ => none, fun _ => 0, by simp, (fill_none ops _ a _ fun _ _ => rfl).symm, ?_, fun _ _ => rfl, fun _ _ => Or.inl rfl, (Below.refl _ _).drew, fun _ _ h => absurd rfl h, fun _ _ _ _ h => absurd rfl h, fun _ _ h => absurd rfl h, fun _ _ => Or.inl rfl⟩
    intro i hi
    simp [hi]

end Go.Proofs.Ytapjnbofhdljfaa
