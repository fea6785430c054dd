/- As wp_region_fresh, where the new cells are of any size: they are kept as whole blocks. -/
import Derived.Test.YtapjnbofhdljfaaFreshT
import Derived.Test.YtapjnbofhdljfaaOnly
import Derived.Test.YtapjnbofhdljfaaMemCopy
namespace Go.Proofs.Ytapjnbofhdljfaa
open Go.RowKit

structure FreshInvW (ops : Array Oper) (n m : Nat) (W : World) (V : Nat → Value) (Ts : Nat → TypeId) (zs cs : Nat → Array Value) (a0 : Act) (listed : Array Bool) (A : Act) (w : World) (e : Ent) (b : Nat → Nat) : Prop where
  size : listed.size = ops.size
  act : A = fillTo ops e ops.size a0
  ent : ∀ i, i < ops.size → ((e i).isSome = listed.getD i false)
  far : ∀ i, ops.size ≤ i → e i = none
  vals : ∀ i, i < n → e i = none ∨ e i = some (V i)
  below : Below W.heap.size W w
  ptr : ∀ k, k < m → e (n + k) ≠ none → e (n + k) = some (.pointer (some ⟨b k, 0, none⟩)) ∧ W.heap.size ≤ b k ∧ Whole w (b k) (Ts k) (if e (n + m + k) = none then zs k else cs k)
  other : ∀ k k', k < m → k' < m → e (n + k) ≠ none → e (n + k') ≠ none → k ≠ k' → b k ≠ b k'
  sto : ∀ k, k < m → e (n + m + k) ≠ none → e (n + k) ≠ none
theorem ent_noneW {ops : Array Oper} {n m : Nat} {W : World} {V : Nat → Value} {Ts : Nat → TypeId} {zs cs : Nat → Array Value} {a0 : Act} {listed : Array Bool} {A : Act} {w : World} {e : Ent} {b : Nat → Nat}
    (h : FreshInvW ops n m W V Ts zs cs a0 listed A w e b) {i : Nat} (hl : listed.getD i true = false) : e i = none := by
  have hi := getD_lt hl
  have := h.ent i (by rw [← h.size]; exact hi)
  rw [getD_tt hl] at this
  cases he : e i with
  | none => rfl
  | some v => rw [he] at this; cases this
theorem ent_someW {ops : Array Oper} {n m : Nat} {W : World} {V : Nat → Value} {Ts : Nat → TypeId} {zs cs : Nat → Array Value} {a0 : Act} {listed : Array Bool} {A : Act} {w : World} {e : Ent} {b : Nat → Nat}
    (h : FreshInvW ops n m W V Ts zs cs a0 listed A w e b) {i : Nat} (hl : listed.getD i false = true) (hi : i < ops.size) : e i ≠ none := by
  have := h.ent i hi
  rw [hl] at this
  intro he
  rw [he] at this
  cases this

theorem wp_region_freshW {P : Program} {id : Nat} {Q : Exit → Act → World → Prop} {a : Act} {W : World} {l : List Oper} (n m N : Nat) (Ts : Nat → TypeId) (zs cs : Nat → Array Value) (Af : Act)
    (hm : P.follows .mixedOrders = true) (hB : freshTB l.toArray n m 0 N = true) (hN : a.tmps.size = N)
    (hq : ∀ w0, Below W.heap.size W w0 → wpQuiet P l.toArray (fun w' => ∃ x : Grown w0, w' = x.w) (fun a' => a' = Af) (l.take n) a)
    (hal : ∀ k, k < m → ∀ o, l[n + k]? = some o → ∀ ρ w', (execOp ρ o).run P w' = .ok (.value (.pointer (some ⟨w'.heap.size, 0, none⟩))) (w'.alloc (.cells (zs k) (Ts k))))
    (hst : ∀ k, k < m → ∀ o, l[n + m + k]? = some o → ∀ (A : Act) (b : Nat) w', (∀ s, dstOf l.toArray (n + k) = some s → A.eval (.tmp s) = .pointer (some ⟨b, 0, none⟩)) →
      (∀ s, s ∈ o.looksAt l.toArray → dstOf l.toArray (n + k) ≠ some s → A.eval (.tmp s) = Af.eval (.tmp s)) → Whole w' b (Ts k) (zs k) →
      ∃ w'', (execOp A.eval o).run P w' = .ok .skip w'' ∧ w''.heap.size = w'.heap.size ∧ w'.grownBy w'' (some b) ∧ Whole w'' b (Ts k) (cs k))
    (hend : ∀ b w', Below W.heap.size W w' → (∀ k, k < m → W.heap.size ≤ b k ∧ Whole w' (b k) (Ts k) (cs k)) → (∀ k k', k < m → k' < m → k ≠ k' → b k ≠ b k') → Q .normal (ptrs l.toArray n b m Af) w') : (Code.region id l.toArray true).wp P Q a W := by
  have F := freshTForm hB
  obtain ⟨ops, hops⟩ : ∃ ops : Array Oper, ops = l.toArray := ⟨_, rfl⟩
  have hget : ∀ i : Nat, l[i]? = ops[i]? := fun i => by rw [hops, List.getElem?_toArray]
  rw [← hops] at F hq hend hst ⊢
  have hsz : ops.size = n + m + m := F.size
  -- the values of the operations that only read or call
  have hvals : ∀ w0, Below W.heap.size W w0 → ∃ vs : Nat → Value, (∀ i o, i < n → ops[i]? = some o → YieldsIn P ops (fun w' => ∃ x : Grown w0, w' = x.w) o (vs i) (fillTo ops (fun i => some (vs i)) i a)) ∧ fillTo ops (fun i => some (vs i)) n a = Af := by
    intro w0 h0
    have hlen : (l.take n).length = n := by rw [List.length_take]; have : l.length = ops.size := by rw [hops]; simp
                                            omega
    obtain ⟨vs, _, g2, g3⟩ := quiet_values a n (l.take n) 0 (fun _ => undef) (by omega) (fun j hj => by rw [List.getElem?_take, if_pos (by omega), Nat.zero_add]; exact hget j) (hq w0 h0)
    exact ⟨vs, fun i o hi ho => g2 i o (Nat.zero_le _) hi ho, g3⟩
  have hV : ∀ vs : Nat → Value, fillTo ops (fun i => some (vs i)) n a = Af → ∀ i, i < n → ∃ d, dstOf ops i = some d ∧ vs i = Af.eval (.tmp d) := by
    intro vs hvs i hi
    obtain ⟨d, hd, hlt⟩ := F.quietDst i hi
    refine ⟨d, hd, ?_⟩
    rw [← hvs]
    exact (fill_at (e := fun i => some (vs i)) hi hd rfl hN hlt (fun j hj => F.apart i j hj)).symm
  let V : Nat → Value := fun i => match dstOf ops i with | some d => Af.eval (.tmp d) | none => undef
  have hVV : ∀ vs : Nat → Value, fillTo ops (fun i => some (vs i)) n a = Af → ∀ i, i < n → vs i = V i := by
    intro vs hvs i hi
    obtain ⟨d, hd, hv⟩ := hV vs hvs i hi
    show vs i = (match dstOf ops i with | some d => Af.eval (.tmp d) | none => undef)
    rw [hd]; exact hv
  refine wp_region_any hm (wpAny_inv (fun listed A w => ∃ e b, FreshInvW ops n m W V Ts zs cs a listed A w e b) ?_ ?_ unlisted (fun listed i hi => unlisted_set (mem_ready.1 hi).1) _ _ _ _ ?_ ?_)
  · -- one operation
    rintro listed A w ⟨e, b, I⟩ i hi
    obtain ⟨hun, o, ho, _⟩ := mem_ready.1 hi
    have hlt : i < ops.size := (Array.getElem?_eq_some_iff.1 ho).1
    have hei := ent_noneW I hun
    have hdst : dstOf ops i = o.dst := by unfold dstOf; rw [ho]; rfl
    have hwant : ∀ A' : Act, Region.wanted o (yielded ops A'.tmps) = true := fun A' => by unfold Region.wanted; rw [F.guards i o ho]
    have hput : ∀ v, A.put o.dst v = fillTo ops (entUpd e i v) ops.size a := fun v => by rw [I.act, fill_upd ops v a hei (fun j hj => F.apart i j hj) _ hlt, hdst]
    have hfar : ∀ v j, ops.size ≤ j → entUpd e i v j = none := fun v j hj => by rw [entUpd_other e v (by omega)]; exact I.far j hj
    by_cases h1 : i < n
    · obtain ⟨vs, g1, g2⟩ := hvals w I.below
      have hy := g1 i o h1 ho
      have hsame : ∀ s ∈ o.looksAt ops, A.eval (.tmp s) = (fillTo ops (fun i => some (vs i)) i a).eval (.tmp s) := by
        intro s hs
        rw [I.act]
        refine (fill_eval ops s ops.size i a a rfl rfl (by omega) ?_ ?_).1
        · intro j hj hds
          have hw := (F.quietSees i o h1 ho s hs j hds).2
          have hl := waits_listed hi hw
          rcases I.vals j (by omega) with h | h
          · exact absurd h (ent_someW I hl (by omega))
          · rw [h, hVV vs g2 j (by omega)]
        · intro j hj _ hds
          have := (F.quietSees i o h1 ho s hs j hds).1
          omega
      have hexec : execOp A.eval o = execOp (fillTo ops (fun i => some (vs i)) i a).eval o := by
        refine execOp_congr o (fun cs b => Region.noSelect_spec F.noSelect i o cs b ho) fun x hx => ?_
        cases x with
        | tmp s => exact hsame s (List.mem_append_left _ (List.mem_filterMap.2 ⟨.tmp s, by simpa using hx, rfl⟩))
        | _ => rfl
      have hy' : YieldsIn P ops (fun w' => ∃ x : Grown w, w' = x.w) o (vs i) A := hy.of_same hexec (by rw [hwant, hwant])
      refine wpOp_of_qOp (C := fun w' => ∃ x : Grown w, w' = x.w) ⟨⟨w, Below.refl _ _⟩, rfl⟩ (fun a' w' hC (hK : a' = A.put o.dst (vs i)) => ?_) (hy'.qOp ho rfl)
      obtain ⟨x, rfl⟩ := hC
      have hb := x.below
      refine ⟨entUpd e i (V i), b, by rw [Array.size_setIfInBounds]; exact I.size, ?_, inv_ent I.size I.ent hun, hfar _, ?_, I.below.trans (hb.mono I.below.size), ?_, ?_, ?_⟩
      · rw [hK, hVV vs g2 i h1, hput]
      · intro j hj
        by_cases hji : j = i
        · subst hji; rw [entUpd_same]; exact Or.inr rfl
        · rw [entUpd_other e _ hji]; exact I.vals j hj
      · intro k hk
        rw [entUpd_other e _ (by omega), entUpd_other e _ (by omega)]
        intro hne
        obtain ⟨p1, p2, p3⟩ := I.ptr k hk hne
        exact ⟨p1, p2, (hb.block _ p3.lt).trans p3⟩
      · intro k k' hk hk'
        rw [entUpd_other e _ (by omega), entUpd_other e _ (by omega)]
        exact I.other k k' hk hk'
      · intro k hk
        rw [entUpd_other e _ (by omega), entUpd_other e _ (by omega)]
        exact I.sto k hk
    · by_cases h2 : i < n + m
      · obtain ⟨k, rfl⟩ : ∃ k, i = n + k := ⟨i - n, by omega⟩
        have hk : k < m := by omega
        have hT := hal k hk o (by rw [hget]; exact ho)
        have hes : e (n + m + k) = none := by
          cases he : e (n + m + k) with
          | none => rfl
          | some v => exact absurd hei (I.sto k hk (by rw [he]; simp))
        unfold wpOp
        rw [ho]
        dsimp only
        rw [if_pos (hwant A)]
        refine Or.inl ?_
        unfold Oper.wp
        rw [hT A.eval w]
        show ∃ e b, _
        refine ⟨entUpd e (n + k) (.pointer (some ⟨w.heap.size, 0, none⟩)), fun j => if j = k then w.heap.size else b j, by rw [Array.size_setIfInBounds]; exact I.size, hput _, inv_ent I.size I.ent hun, hfar _, ?_, I.below.alloc I.below.size _, ?_, ?_, ?_⟩
        · intro j hj
          rw [entUpd_other e _ (by omega)]
          exact I.vals j hj
        · intro j hj
          by_cases hjk : j = k
          · subst hjk
            intro _
            rw [entUpd_same, entUpd_other e _ (by omega), if_pos rfl, hes]
            rw [if_pos rfl]
            exact ⟨rfl, I.below.size, Whole.new _ _ _⟩
          · rw [entUpd_other e _ (by omega), entUpd_other e _ (by omega), if_neg hjk]
            intro hne
            obtain ⟨p1, p2, p3⟩ := I.ptr j hj hne
            exact ⟨p1, p2, p3.alloc _⟩
        · intro j j' hj hj'
          by_cases hjk : j = k <;> by_cases hjk' : j' = k
          · intro _ _ h
            omega
          · rw [entUpd_other e (i := n + k) (j := n + j') _ (by omega)]
            intro _ hne _
            have := (I.ptr j' hj' hne).2.2.lt
            rw [if_pos hjk, if_neg hjk']
            omega
          · rw [entUpd_other e (i := n + k) (j := n + j) _ (by omega)]
            intro hne _ _
            have := (I.ptr j hj hne).2.2.lt
            rw [if_neg hjk, if_pos hjk']
            omega
          · rw [entUpd_other e (i := n + k) (j := n + j') _ (by omega), entUpd_other e (i := n + k) (j := n + j) _ (by omega)]
            intro h1 h2 h3
            rw [if_neg hjk, if_neg hjk']
            exact I.other j j' hj hj' h1 h2 h3
        · intro j hj
          rw [entUpd_other e _ (by omega)]
          by_cases hjk : j = k
          · subst hjk
            intro h
            exact absurd hes h
          · rw [entUpd_other e _ (by omega)]
            exact I.sto j hj
      · obtain ⟨k, rfl⟩ : ∃ k, i = n + m + k := ⟨i - (n + m), by omega⟩
        have hk : k < m := by omega
        have hcl := ent_someW I (waits_listed hi (F.storeWaits k hk)) (by omega)
        obtain ⟨p1, p2, p4⟩ := I.ptr k hk hcl
        rw [if_pos hei] at p4
        have hV' : ∀ s, s ∈ o.looksAt ops → dstOf ops (n + k) ≠ some s → A.eval (.tmp s) = Af.eval (.tmp s) := by
          intro s hs hne
          obtain ⟨vs, g1, g2⟩ := hvals w I.below
          rw [I.act, ← g2]
          refine (fill_eval ops s ops.size n a a rfl rfl (by omega) ?_ ?_).1
          · intro j hj hds
            have hl := waits_listed hi (F.storeSees k o hk ho s hs hne j hds).2
            rcases I.vals j hj with h | h
            · exact absurd h (ent_someW I hl (by omega))
            · rw [h, hVV vs g2 j hj]
          · intro j hj _ hds
            have := (F.storeSees k o hk ho s hs hne j hds).1
            omega
        have hP : ∀ s, dstOf ops (n + k) = some s → A.eval (.tmp s) = .pointer (some ⟨b k, 0, none⟩) := by
          intro s hs
          obtain ⟨d, hd, hlt'⟩ := F.cellDst k hk
          obtain rfl : d = s := Option.some.inj (hd.symm.trans hs)
          rw [I.act]
          exact fill_at (by omega) hd p1 hN hlt' (fun j hj => F.apart _ j hj)
        obtain ⟨w'', r1, r2, r3, r4⟩ := hst k hk o (by rw [hget]; exact ho) A (b k) w hP hV' p4
        unfold wpOp
        rw [ho]
        dsimp only
        rw [if_pos (hwant A)]
        refine Or.inl ?_
        unfold Oper.wp
        rw [r1]
        show ∃ e b, _
        refine ⟨entUpd e (n + m + k) undef, b, by rw [Array.size_setIfInBounds]; exact I.size, hput _, inv_ent I.size I.ent hun, hfar _, ?_, I.below.grown r3 I.below.size (fun y e => by cases e; exact p2), ?_, ?_, ?_⟩
        · intro j hj
          rw [entUpd_other e _ (by omega)]
          exact I.vals j hj
        · intro j hj
          rw [entUpd_other e (i := n + m + k) (j := n + j) _ (by omega)]
          intro hne
          obtain ⟨q1, q2, q3⟩ := I.ptr j hj hne
          refine ⟨q1, q2, ?_⟩
          by_cases hjk : j = k
          · subst hjk
            rw [entUpd_same, if_neg (by simp)]
            exact r4
          · rw [entUpd_other e _ (by omega)]
            have hbk := I.other j k hj hk hne hcl hjk
            exact whole_grownM q3 r3 (fun e => hbk (Option.some.inj e).symm)
        · intro j j' hj hj'
          rw [entUpd_other e (i := n + m + k) (j := n + j) _ (by omega), entUpd_other e (i := n + m + k) (j := n + j') _ (by omega)]
          exact I.other j j' hj hj'
        · intro j hj
          rw [entUpd_other e (i := n + m + k) (j := n + j) _ (by omega)]
          by_cases hjk : j = k
          · subst hjk; intro _; exact hcl
          · rw [entUpd_other e _ (by omega)]; exact I.sto j hj
  · rintro listed A w ⟨e, b, I⟩ hr
    have hall := all_of_readyT I.size F.back hr
    have hne : ∀ i, i < ops.size → e i ≠ none := fun i hi => ent_someW I (hall i hi) hi
    obtain ⟨vs, g1, g2⟩ := hvals w I.below
    have e1 : fillTo ops e n a = Af := by
      rw [← g2]
      refine fill_congr ops a n fun i hi => ?_
      rcases I.vals i hi with h | h
      · exact absurd h (hne i (by omega))
      · rw [h, hVV vs g2 i hi]
    have e2 : ∀ k, k ≤ m → fillTo ops e (n + k) a = ptrs ops n b k Af := by
      intro k
      induction k with
      | zero => intro _; exact e1
      | succ k ih =>
        intro hk
        rw [← Nat.add_assoc, fill_succ, (I.ptr k (by omega) (hne _ (by omega))).1, ih (by omega)]
        rfl
    have e3 : ∀ k, k ≤ m → fillTo ops e (n + m + k) a = ptrs ops n b m Af := by
      intro k
      induction k with
      | zero => intro _; exact e2 m (Nat.le_refl _)
      | succ k ih =>
        intro hk
        rw [← Nat.add_assoc, fill_succ, F.storeDst k (by omega), ih (by omega)]
        cases e (n + m + k) <;> rfl
    rw [I.act, hsz, e3 m (Nat.le_refl _)]
    refine hend b w I.below (fun k hk => ⟨(I.ptr k hk (hne _ (by omega))).2.1, ?_⟩) (fun k k' hk hk' h => I.other k k' hk hk' (hne _ (by omega)) (hne _ (by omega)) h)
    have := (I.ptr k hk (hne _ (by omega))).2.2
    rwa [if_neg (hne _ (by omega))] at this
  · unfold unlisted
    have := List.countP_le_length (p := (· == false)) (l := (Array.replicate ops.size false).toList)
    simpa using this
  · refine ⟨fun _ => none, fun _ => 0, by simp, (fill_none ops _ a _ fun _ _ => rfl).symm, ?_, fun _ _ => rfl, fun _ _ => Or.inl rfl, (Below.refl _ _).drew, fun _ _ h => absurd rfl h, fun _ _ _ _ h => absurd rfl h, fun _ _ h => absurd rfl h⟩
    intro i hi
    simp [hi]

/-- A struct stored into a whole block. -/
theorem run_store_W {P : Program} (d : Option Tmp) (t : TypeId) (pos : String) (af : Array Edge) (g : Option (Nat × Bool)) (ty : TypeId) (x y : Tmp) (A : Act) (b : Nat) (T : TypeId) (z c : Array Value) (w : World)
    (hx : A.eval (.tmp x) = .pointer (some ⟨b, 0, none⟩)) (hy : A.eval (.tmp y) = .agg c) (hw : Whole w b T z) (hi : (P.info? ty).map (·.size) = some c.size) (hs : z.size = c.size) (h1 : c.all (·.oneCell') = true) :
    ∃ w'', (execOp A.eval ⟨d, .store ty (.tmp x) (.tmp y), t, pos, af, g⟩).run P w = .ok .skip w'' ∧ w''.heap.size = w.heap.size ∧ w.grownBy w'' (some b) ∧ Whole w'' b T c := by
  refine ⟨_, ?_, ?_, ?_, setRow_heap w b z c T (0, 0) hw⟩
  · unfold execOp
    simp only [hx, hy, Instr.storeAt, Instr.sureAddr, Sem.run_bind, Sem.run_pure, Result.andThen_ok, run_storeVar_row w b T ty z c hw hi hs h1]
  · simp [World.setRow]
  · refine ⟨rfl, rfl, rfl, by simp [World.setRow], fun k _ hne => ?_⟩
    simp only [World.setRow]
    rw [Array.getElem?_modify, if_neg (fun e => hne (by rw [e]))]
end Go.Proofs.Ytapjnbofhdljfaa
