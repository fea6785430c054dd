/- event.Valid. -/
import Derived.Test.YtfkejnnbfneieaaGreatDoorEvIs
import Derived.Test.YtfkejnnbfneieaaGreatDoorTwo
namespace Go.Proofs.YtfkejnnbfneieaaGreatDoor
open Go.RowKit
open Evt

namespace Evt
def isUse (a b : Int) : Bool := decide (0 ≤ a) && (decide (a ≤ b) && decide (b ≤ 1000000))
def nm (s : ByteArray) : Bool := Lex.nameB s.data.toList
def emp : ByteArray := ⟨#[]⟩
/-- What is asked of the fields that an operation has. -/
def okE (e : Ev) : Bool :=
  if e.op = 1 then nm e.kind
  else if e.op = 2 then nm e.into && ((e.into.toList != e.part.toList) && nm e.slot)
  else if e.op = 4 then isUse e.k0 e.k1 && (isUse e.c0 e.c1 && isUse e.d0 e.d1)
  else if e.op = 6 then nm e.key && (!e.value.toList.isEmpty && decide ((e.value.size : Int) ≤ 200))
  else true
/-- What is left without these. -/
def restOf (e : Ev) : Ev :=
  if e.op = 1 then { e with op := 0, day := 0, part := emp, kind := emp }
  else if e.op = 2 then { e with op := 0, day := 0, part := emp, into := emp, slot := emp }
  else if e.op = 4 then { e with op := 0, day := 0, part := emp, k0 := 0, k1 := 0, c0 := 0, c1 := 0, d0 := 0, d1 := 0 }
  else if e.op = 6 then { e with op := 0, day := 0, part := emp, key := emp, value := emp }
  else { e with op := 0, day := 0, part := emp }
noncomputable def valid (e : Ev) : Bool :=
  !decide (e.op < 1) && (!decide (7 < e.op) && (!decide (e.day < 0) && (!decide (40000 < e.day) && (nm e.part && (okE e && evEq (restOf e) zero)))))
theorem i64_zero : I64 0 := by unfold I64; decide
theorem st_emp : St emp := by unfold St emp; decide
theorem sz_zero : Sz zero := ⟨i64_zero, i64_zero, st_emp, st_emp, st_emp, st_emp, st_emp, st_emp, i64_zero, i64_zero, i64_zero, i64_zero, i64_zero, i64_zero⟩
theorem sz_rest {e : Ev} (h : Sz e) : Sz (restOf e) := by
  obtain ⟨h0, h1, h2, h3, h4, h5, h6, h7, h8, h9, g0, g1, g2, g3⟩ := h
  unfold restOf
  split
  · exact ⟨i64_zero, i64_zero, st_emp, st_emp, h4, h5, h6, h7, h8, h9, g0, g1, g2, g3⟩
  · split
    · exact ⟨i64_zero, i64_zero, st_emp, h3, st_emp, st_emp, h6, h7, h8, h9, g0, g1, g2, g3⟩
    · split
      · exact ⟨i64_zero, i64_zero, st_emp, h3, h4, h5, h6, h7, i64_zero, i64_zero, i64_zero, i64_zero, i64_zero, i64_zero⟩
      · split
        · exact ⟨i64_zero, i64_zero, st_emp, h3, h4, h5, st_emp, st_emp, h8, h9, g0, g1, g2, g3⟩
        · exact ⟨i64_zero, i64_zero, st_emp, h3, h4, h5, h6, h7, h8, h9, g0, g1, g2, g3⟩
end Evt

set_option maxRecDepth 100000 in
theorem isUse_any (a b : Int) (W : World) :
    Calls Tryz.prog 53 #[.agg #[.int .i64 a, .int .i64 b]] W fun e w' => e = .returned (.bool (Evt.isUse a b)) ∧ Below W.heap.size W w' := by
  have HB : Hid (∀ o, Below W.heap.size W (W.alloc o)) := Lib.hid (fun o => (Below.refl _ _).alloc (Nat.le_refl _) _)
  unfold Evt.isUse
  obtain ⟨b1, e1⟩ : ∃ x, decide (0 ≤ a) = x := ⟨_, rfl⟩
  obtain ⟨b2, e2⟩ : ∃ x, decide (a ≤ b) = x := ⟨_, rfl⟩
  obtain ⟨b3, e3⟩ : ∃ x, decide (b ≤ 1000000) = x := ⟨_, rfl⟩
  rw [e1, e2, e3]
  go_enter Tryz.func53, Tryz.ntmps53
  cases b1 <;> cases b2
  all_goals
    go_wp2_with fail
    go_ret
    exact ⟨rfl, HB.out _⟩
theorem ev_size : (Tryz.prog.info? 50).map (·.size) = some 14 := by kernel_rfl
set_option maxRecDepth 100000 in
theorem ev_eql {a b : Ev} (ha : Sz a) (hb : Sz b) (w : World) : (binOp .eql 50 (.agg (evC a).toArray) (.agg (evC b).toArray)).run Tryz.prog w = .ok (.bool (evEq a b)) w := by
  have h := run_ev_eq ha hb w
  show Sem.run Tryz.prog (do pure (Value.bool (← Op.equal 50 (.agg (evC a).toArray) (.agg (evC b).toArray)))) w = _
  simp [h]
theorem ev_guard : Tryz.prog.eqGuardType Tryz.prog.depth 50 = false := by kernel_rfl
theorem whole_setM {w : World} {g : Nat} {t : TypeId} {cs : List Value} (h : Whole w g t cs.toArray) (i : Nat) (u : Value) {cs' : List Value} (hc : cs.set i u = cs') : Whole (w.setCell ⟨g, i, none⟩ u) g t cs'.toArray := by
  have := h.set i u
  rw [← hc]
  have e : cs.toArray.setIfInBounds i u = (cs.set i u).toArray := by simp
  rw [e] at this
  exact this

theorem use_whole {w : World} {g : Nat} {e : Ev} (hw : Whole w g 50 (evC e).toArray) :
    Whole ((((((w.setCell ⟨g, 8, none⟩ (.int .i64 0)).setCell ⟨g, 9, none⟩ (.int .i64 0)).setCell ⟨g, 10, none⟩ (.int .i64 0)).setCell ⟨g, 11, none⟩ (.int .i64 0)).setCell ⟨g, 12, none⟩ (.int .i64 0)).setCell ⟨g, 13, none⟩ (.int .i64 0)) g 50 (evC { e with k0 := 0, k1 := 0, c0 := 0, c1 := 0, d0 := 0, d1 := 0 }).toArray := by
  have h1 := whole_setM hw 8 (.int .i64 0) (cs' := evC { e with k0 := 0 }) rfl
  have h2 := whole_setM h1 9 (.int .i64 0) (cs' := evC { e with k0 := 0, k1 := 0 }) rfl
  have h3 := whole_setM h2 10 (.int .i64 0) (cs' := evC { e with k0 := 0, k1 := 0, c0 := 0 }) rfl
  have h4 := whole_setM h3 11 (.int .i64 0) (cs' := evC { e with k0 := 0, k1 := 0, c0 := 0, c1 := 0 }) rfl
  have h5 := whole_setM h4 12 (.int .i64 0) (cs' := evC { e with k0 := 0, k1 := 0, c0 := 0, c1 := 0, d0 := 0 }) rfl
  exact whole_setM h5 13 (.int .i64 0) (cs' := evC { e with k0 := 0, k1 := 0, c0 := 0, c1 := 0, d0 := 0, d1 := 0 }) rfl
theorem grown_set {w w' : World} {g : Nat} (h : w.grownBy w' (some g)) (i : Nat) (u : Value) : w.grownBy (w'.setCell ⟨g, i, none⟩ u) (some g) :=
  ⟨h.1, h.2, h.3, by simpa using h.4, fun j hj hne => (Below.heap_setCell _ _ _ _ (fun e => hne (by rw [e]))).trans (h.5 j hj hne)⟩
theorem use_grown {w : World} {g : Nat} : w.grownBy ((((((w.setCell ⟨g, 8, none⟩ (.int .i64 0)).setCell ⟨g, 9, none⟩ (.int .i64 0)).setCell ⟨g, 10, none⟩ (.int .i64 0)).setCell ⟨g, 11, none⟩ (.int .i64 0)).setCell ⟨g, 12, none⟩ (.int .i64 0)).setCell ⟨g, 13, none⟩ (.int .i64 0)) (some g) :=
  grown_set (grown_set (grown_set (grown_set (grown_set (grown_set ⟨rfl, rfl, rfl, Nat.le_refl _, fun _ _ _ => rfl⟩ _ _) _ _) _ _) _ _) _ _) _ _
set_option maxRecDepth 100000 in
set_option maxHeartbeats 4000000 in
theorem wpList_store_use {ops : Array Oper} {rest : List Oper} {op : Oper} {a : Act} {w : World} {Q : Exit → Act → World → Prop} (hgd : op.guard = none) (x y : Operand) (ho : op.op = .store 48 x y) (g : Nat) (e : Ev)
    (hx : a.eval x = .pointer (some ⟨g, 8, none⟩)) (hy : a.eval y = .agg #[.int .i64 0, .int .i64 0, .int .i64 0, .int .i64 0, .int .i64 0, .int .i64 0]) (hw : Whole w g 50 (evC e).toArray)
    (h : ∀ w', Whole w' g 50 (evC { e with k0 := 0, k1 := 0, c0 := 0, c1 := 0, d0 := 0, d1 := 0 }).toArray → w.grownBy w' (some g) → wpList Tryz.prog ops Q rest (a.put op.dst undef) w') : wpList Tryz.prog ops Q (op :: rest) a w :=
  wpList_store_mid hgd _ x y ho g 8 #[.int .i64 0, .int .i64 0, .int .i64 0, .int .i64 0, .int .i64 0, .int .i64 0] hx hy
    (fun j hj => by
      rw [hw.cell, hw.frozen]
      refine ⟨?_, rfl⟩
      have hj : j < 6 := hj
      rw [Array.getElem?_eq_getElem (by show 8 + j < 14; omega)]
      rfl)
    (by kernel_rfl) (by simp [Value.oneCell']) (by
      have e : w.setCells g 8 [.int .i64 0, .int .i64 0, .int .i64 0, .int .i64 0, .int .i64 0, .int .i64 0] = (((((w.setCell ⟨g, 8, none⟩ (.int .i64 0)).setCell ⟨g, 9, none⟩ (.int .i64 0)).setCell ⟨g, 10, none⟩ (.int .i64 0)).setCell ⟨g, 11, none⟩ (.int .i64 0)).setCell ⟨g, 12, none⟩ (.int .i64 0)).setCell ⟨g, 13, none⟩ (.int .i64 0) := rfl
      rw [show (#[.int .i64 0, .int .i64 0, .int .i64 0, .int .i64 0, .int .i64 0, .int .i64 0] : Array Value).toList = [.int .i64 0, .int .i64 0, .int .i64 0, .int .i64 0, .int .i64 0, .int .i64 0] from rfl, e]
      exact h _ (use_whole hw) use_grown)
set_option maxRecDepth 100000 in
set_option maxHeartbeats 8000000 in
theorem evValid_any (e : Ev) (hz : Sz e) (W : World) :
    Calls Tryz.prog 30 #[.agg (evC e).toArray] W fun r w' => r = .returned (.bool (Evt.valid e)) ∧ Below W.heap.size W w' := by
  obtain ⟨v, Hv⟩ : ∃ v, Hid (v = Evt.valid e) := ⟨_, Lib.hid rfl⟩
  rw [← Hv.out]
  have HSr0 := Lib.hid (sz_rest hz)
  have HSz := Lib.hid hz
  have HSp := Lib.hid ev_size
  obtain ⟨R, HRe⟩ : ∃ r, Hid (r = restOf e) := ⟨_, Lib.hid rfl⟩
  obtain ⟨OK, HOK⟩ : ∃ r, Hid (r = okE e) := ⟨_, Lib.hid rfl⟩
  rw [← HRe.out] at HSr0
  have HV0 : Hid (v = (!decide (e.op < 1) && (!decide (7 < e.op) && (!decide (e.day < 0) && (!decide (40000 < e.day) && (nm e.part && (OK && evEq R Evt.zero))))))) := Lib.hid (by rw [Hv.out, HRe.out, HOK.out]; rfl)
  clear hz Hv
  obtain ⟨op, day, part, kind, into, slot, key, value, k0, k1, c0, c1, d0, d1⟩ := e
  dsimp only at HV0
  have HN0 := Lib.hid (fun w => name_wide part HSz.out.part w)
  have HN1 := Lib.hid (fun w => name_wide kind HSz.out.kind w)
  have HN2 := Lib.hid (fun w => name_wide into HSz.out.into w)
  have HN3 := Lib.hid (fun w => name_wide slot HSz.out.slot w)
  have HN4 := Lib.hid (fun w => name_wide key HSz.out.key w)
  unfold evC
  obtain ⟨N, HN⟩ : ∃ N, Hid (N = W.heap.size) := ⟨_, Lib.hid rfl⟩
  obtain ⟨V, HV⟩ : ∃ w, Hid (w = W.alloc (.cells #[.int .i64 op, .int .i64 day, .string part, .string kind, .string into, .string slot, .string key, .string value, .int .i64 k0, .int .i64 k1, .int .i64 c0, .int .i64 c1, .int .i64 d0, .int .i64 d1] 50)) := ⟨_, Lib.hid rfl⟩
  have HB : Hid (Below W.heap.size W V) := Lib.hid (by rw [HV.out]; exact (Below.refl _ _).alloc (Nat.le_refl _) _)
  have HA : Hid (Whole V N 50 (evC ⟨op, day, part, kind, into, slot, key, value, k0, k1, c0, c1, d0, d1⟩).toArray) := Lib.hid (by rw [HV.out, HN.out]; exact Whole.new _ _ _)
  obtain ⟨y1, d1⟩ : ∃ b, decide (op < 1) = b := ⟨_, rfl⟩
  obtain ⟨y2, d2⟩ : ∃ b, decide (7 < op) = b := ⟨_, rfl⟩
  obtain ⟨y3, d3⟩ : ∃ b, decide (day < 0) = b := ⟨_, rfl⟩
  obtain ⟨y4, d4⟩ : ∃ b, decide (40000 < day) = b := ⟨_, rfl⟩
  obtain ⟨y5, Hy5⟩ : ∃ b, Hid (b = nm part) := ⟨_, Lib.hid rfl⟩
  rw [d1, d2, d3, d4, ← Hy5.out] at HV0
  have q5 := HN0.out V
  rw [show Lex.nameB part.data.toList = y5 from Hy5.out.symm] at q5
  go_enter Tryz.func30, Tryz.ntmps30
  cases y1 with
  | true =>
    obtain rfl : v = false := by rw [HV0.out]; rfl
    go_wp2_with fail
    rw [← HV.out]
    go_ret
    exact ⟨rfl, HB.out⟩
  | false =>
  cases y2 with
  | true =>
    obtain rfl : v = false := by rw [HV0.out]; rfl
    go_wp2_with fail
    rw [← HV.out]
    go_ret
    exact ⟨rfl, HB.out⟩
  | false =>
  cases y3 with
  | true =>
    obtain rfl : v = false := by rw [HV0.out]; rfl
    go_wp2_with fail
    rw [← HV.out]
    go_ret
    exact ⟨rfl, HB.out⟩
  | false =>
  cases y4 with
  | true =>
    obtain rfl : v = false := by rw [HV0.out]; rfl
    go_wp2_with fail
    rw [← HV.out]
    go_ret
    exact ⟨rfl, HB.out⟩
  | false =>
  go_wp2_with fail
  rw [← HV.out, ← HN.out]
  refine q5.mono ?_
  rintro e w' ⟨rfl, rfl⟩
  cases y5 with
  | false =>
    obtain rfl : v = false := by rw [HV0.out]; rfl
    go_wp2_with fail
    go_ret
    exact ⟨rfl, HB.out⟩
  | true =>
  have hop : op = 1 ∨ op = 2 ∨ op = 3 ∨ op = 4 ∨ op = 5 ∨ op = 6 ∨ op = 7 := by
    have := of_decide_eq_false d1; have := of_decide_eq_false d2; omega
  have HV5 : Hid (v = (OK && evEq R Evt.zero)) := Lib.hid (by rw [HV0.out]; rfl)
  have HOp := Lib.hid hop
  clear d1 d2 d3 d4 q5 hop
  obtain ⟨g, Hg⟩ : ∃ g, Hid (g = V.heap.size) := ⟨_, Lib.hid rfl⟩
  obtain ⟨U, HU⟩ : ∃ w, Hid (w = V.alloc (.cells (evC ⟨op, day, part, kind, into, slot, key, value, k0, k1, c0, c1, d0, d1⟩).toArray 50)) := ⟨_, Lib.hid rfl⟩
  have HWU : Hid (Whole U g 50 (evC ⟨op, day, part, kind, into, slot, key, value, k0, k1, c0, c1, d0, d1⟩).toArray) := Lib.hid (by rw [HU.out, Hg.out]; exact Whole.new _ _ _)
  have HBU : Hid (Below V.heap.size V U) := Lib.hid (by rw [HU.out]; exact (Below.refl _ _).alloc (Nat.le_refl _) _)
  have HOne := Lib.hid (evC_one ⟨op, day, part, kind, into, slot, key, value, k0, k1, c0, c1, d0, d1⟩)
  go_wp2_with (first
    | (with_reducible show wpList _ _ _ (Oper.mk _ (Op.load 50 _) _ _ _ _ :: _) _ _; refine wpList_load_mid rfl _ _ rfl N 0 rfl _ _ HA.out.range Tryz.underlying50 rfl (HSp.out.trans rfl) ?_)
    | (with_reducible show wpList _ _ _ (Oper.mk _ (Op.store 50 _ _) _ _ _ _ :: _) _ _; refine Hid.out ?_))
  refine Lib.hid ?_
  refine wpList_store_new rfl _ _ _ rfl _ (evC ⟨op, day, part, kind, into, slot, key, value, k0, k1, c0, c1, d0, d1⟩).toArray rfl rfl (HSp.out.trans rfl) rfl HOne.out ?_
  rw [← HU.out, ← Hg.out]
  go_simp
  obtain ⟨X, HX⟩ : ∃ w, Hid (w = ((U.setCell ⟨g, 0, none⟩ (.int .i64 0)).setCell ⟨g, 1, none⟩ (.int .i64 0)).setCell ⟨g, 2, none⟩ (.string ⟨#[]⟩)) := ⟨_, Lib.hid rfl⟩
  have HWX : Hid (Whole X g 50 (evC ⟨0, 0, emp, kind, into, slot, key, value, k0, k1, c0, c1, d0, d1⟩).toArray) := Lib.hid (by
    rw [HX.out]
    exact whole_setM (whole_setM (whole_setM HWU.out 0 _ rfl) 1 _ rfl) 2 _ rfl)
  have HSet : Hid (∀ (w : World) (i : Nat) (u : Value), Below V.heap.size V w → Below V.heap.size V (w.setCell ⟨g, i, none⟩ u)) := Lib.hid (fun w i u h => h.grown (row := some g) ⟨rfl, rfl, rfl, by simp, fun j _ hj => Below.heap_setCell _ _ _ _ (fun e => hj (by rw [e]))⟩ h.size (fun y e => by cases e; rw [Hg.out]; exact Nat.le_refl _))
  have HBX : Hid (Below V.heap.size V X) := Lib.hid (by rw [HX.out]; exact HSet.out _ _ _ (HSet.out _ _ _ (HSet.out _ _ _ HBU.out)))
  have f0 := HWU.out.frozen 0
  have f1 := HWU.out.frozen 1
  have f2 := HWU.out.frozen 2
  have u0 : U.cell? ⟨g, 0, none⟩ = some (.int .i64 op) := HWU.out.cell 0
  have u1 : U.cell? ⟨g, 1, none⟩ = some (.int .i64 day) := HWU.out.cell 1
  have u2 : U.cell? ⟨g, 2, none⟩ = some (.string part) := HWU.out.cell 2
  have n0 : X.cell? ⟨N, 0, none⟩ = some (.int .i64 op) := (whole_belowM HA.out HBX.out).cell 0
  go_wp2_with (first
    | (with_reducible show wpList _ _ _ (Oper.mk _ (Op.fieldAddr _ (.tmp 1) 0) _ _ _ _ :: _) _ _; refine Hid.out ?_))
  refine Lib.hid ?_
  rw [← HX.out]
  rcases HOp.out with rfl | rfl | rfl | rfl | rfl | rfl | rfl
  · have hR : R = ⟨0, 0, emp, emp, into, slot, key, value, k0, k1, c0, c1, d0, d1⟩ := by rw [HRe.out]; rfl
    have hOK : OK = nm kind := by rw [HOK.out]; rfl
    have n3 : World.cell? _ ⟨N, 3, none⟩ = some (.string kind) := (whole_belowM HA.out HBX.out).cell 3
    have g3 : World.cell? _ ⟨g, 3, none⟩ = some (.string kind) := HWX.out.cell 3
    have z3 : World.frozen? _ ⟨g, 3, none⟩ = false := HWX.out.frozen 3
    obtain ⟨ok, Hok⟩ : ∃ b, Hid (b = nm kind) := ⟨_, Lib.hid rfl⟩
    have q := HN1.out X
    rw [show Lex.nameB kind.data.toList = ok from Hok.out.symm] at q
    rw [← Hok.out] at hOK
    go_wp2_with fail
    refine q.mono ?_
    rintro e w' ⟨rfl, rfl⟩
    clear n3 q
    cases ok with
    | false =>
      obtain rfl : v = false := by rw [HV5.out, hOK]; rfl
      go_wp2_with fail
      go_ret
      exact ⟨rfl, below_step HB.out (by repeat (first | exact HBX.out | apply HSet.out))⟩
    | true =>
      obtain ⟨q, Hq⟩ : ∃ q, Hid (q = evEq R Evt.zero) := ⟨_, Lib.hid rfl⟩
      have heq := fun w => ev_eql HSr0.out sz_zero w
      rw [← Hq.out] at heq
      have hgd := ev_guard
      obtain rfl : v = q := by rw [HV5.out, hOK, Hq.out]; rfl
      rw [hR] at heq
      unfold evC Evt.zero Evt.emp at heq
      dsimp only at heq
      have g0 : World.cell? _ ⟨g, 0, none⟩ = some (.int .i64 0) := HWX.out.cell 0
      have z0 : World.frozen? _ ⟨g, 0, none⟩ = false := HWX.out.frozen 0
      have g1 : World.cell? _ ⟨g, 1, none⟩ = some (.int .i64 0) := HWX.out.cell 1
      have z1 : World.frozen? _ ⟨g, 1, none⟩ = false := HWX.out.frozen 1
      have g2 : World.cell? _ ⟨g, 2, none⟩ = some (.string ⟨#[]⟩) := HWX.out.cell 2
      have z2 : World.frozen? _ ⟨g, 2, none⟩ = false := HWX.out.frozen 2
      have g3 : World.cell? _ ⟨g, 3, none⟩ = some (.string kind) := HWX.out.cell 3
      have z3 : World.frozen? _ ⟨g, 3, none⟩ = false := HWX.out.frozen 3
      have g4 : World.cell? _ ⟨g, 4, none⟩ = some (.string into) := HWX.out.cell 4
      have z4 : World.frozen? _ ⟨g, 4, none⟩ = false := HWX.out.frozen 4
      have g5 : World.cell? _ ⟨g, 5, none⟩ = some (.string slot) := HWX.out.cell 5
      have z5 : World.frozen? _ ⟨g, 5, none⟩ = false := HWX.out.frozen 5
      have g6 : World.cell? _ ⟨g, 6, none⟩ = some (.string key) := HWX.out.cell 6
      have z6 : World.frozen? _ ⟨g, 6, none⟩ = false := HWX.out.frozen 6
      have g7 : World.cell? _ ⟨g, 7, none⟩ = some (.string value) := HWX.out.cell 7
      have z7 : World.frozen? _ ⟨g, 7, none⟩ = false := HWX.out.frozen 7
      have g8 : World.cell? _ ⟨g, 8, none⟩ = some (.int .i64 k0) := HWX.out.cell 8
      have z8 : World.frozen? _ ⟨g, 8, none⟩ = false := HWX.out.frozen 8
      have g9 : World.cell? _ ⟨g, 9, none⟩ = some (.int .i64 k1) := HWX.out.cell 9
      have z9 : World.frozen? _ ⟨g, 9, none⟩ = false := HWX.out.frozen 9
      have g10 : World.cell? _ ⟨g, 10, none⟩ = some (.int .i64 c0) := HWX.out.cell 10
      have z10 : World.frozen? _ ⟨g, 10, none⟩ = false := HWX.out.frozen 10
      have g11 : World.cell? _ ⟨g, 11, none⟩ = some (.int .i64 c1) := HWX.out.cell 11
      have z11 : World.frozen? _ ⟨g, 11, none⟩ = false := HWX.out.frozen 11
      have g12 : World.cell? _ ⟨g, 12, none⟩ = some (.int .i64 d0) := HWX.out.cell 12
      have z12 : World.frozen? _ ⟨g, 12, none⟩ = false := HWX.out.frozen 12
      have g13 : World.cell? _ ⟨g, 13, none⟩ = some (.int .i64 d1) := HWX.out.cell 13
      have z13 : World.frozen? _ ⟨g, 13, none⟩ = false := HWX.out.frozen 13
      clear HOK HRe
      go_wp2_with fail
      go_ret
      exact ⟨rfl, below_step HB.out (by repeat (first | exact HBX.out | apply HSet.out))⟩
  · have hR : R = ⟨0, 0, emp, kind, emp, emp, key, value, k0, k1, c0, c1, d0, d1⟩ := by rw [HRe.out]; rfl
    have hOK : OK = (nm into && ((into.toList != part.toList) && nm slot)) := by rw [HOK.out]; rfl
    have n2 : World.cell? _ ⟨N, 2, none⟩ = some (.string part) := (whole_belowM HA.out HBX.out).cell 2
    have n4 : World.cell? _ ⟨N, 4, none⟩ = some (.string into) := (whole_belowM HA.out HBX.out).cell 4
    have n5 : World.cell? _ ⟨N, 5, none⟩ = some (.string slot) := (whole_belowM HA.out HBX.out).cell 5
    have g4 : World.cell? _ ⟨g, 4, none⟩ = some (.string into) := HWX.out.cell 4
    have z4 : World.frozen? _ ⟨g, 4, none⟩ = false := HWX.out.frozen 4
    have g5 : World.cell? _ ⟨g, 5, none⟩ = some (.string slot) := HWX.out.cell 5
    have z5 : World.frozen? _ ⟨g, 5, none⟩ = false := HWX.out.frozen 5
    obtain ⟨o1, Ho1⟩ : ∃ b, Hid (b = nm into) := ⟨_, Lib.hid rfl⟩
    obtain ⟨o3, Ho3⟩ : ∃ b, Hid (b = nm slot) := ⟨_, Lib.hid rfl⟩
    obtain ⟨o2, eo2⟩ : ∃ b, (into.toList == part.toList) = b := ⟨_, rfl⟩
    have no2 : (into.toList != part.toList) = !o2 := by rw [bne, eo2]
    rw [no2, ← Ho1.out, ← Ho3.out] at hOK
    have q := HN2.out X
    rw [show Lex.nameB into.data.toList = o1 from Ho1.out.symm] at q
    have q' := HN3.out X
    rw [show Lex.nameB slot.data.toList = o3 from Ho3.out.symm] at q'
    go_wp2_with fail
    refine q.mono ?_
    rintro e w' ⟨rfl, rfl⟩
    cases o1 with
    | false =>
      obtain ⟨ok, hok⟩ : ∃ ok, ok = false := ⟨_, rfl⟩
      rw [show (false && (!o2 && o3)) = ok by rw [hok]; rfl] at hOK
      subst hok
      obtain rfl : v = false := by rw [HV5.out, hOK]; rfl
      clear q q'
      go_wp2_with fail
      go_ret
      exact ⟨rfl, below_step HB.out (by repeat (first | exact HBX.out | apply HSet.out))⟩
    | true =>
    cases o2 with
    | true =>
      obtain rfl : v = false := by rw [HV5.out, hOK]; rfl
      clear q q'
      go_wp2_with fail
      go_ret
      exact ⟨rfl, below_step HB.out (by repeat (first | exact HBX.out | apply HSet.out))⟩
    | false =>
      go_wp2_with fail
      refine q'.mono ?_
      rintro e w' ⟨rfl, rfl⟩
      obtain ⟨ok, hok⟩ : ∃ ok, ok = o3 := ⟨_, rfl⟩
      have hOK : OK = ok := by rw [hOK, hok]; rfl
      subst hok
      clear q q' n2 n4 n5 eo2 no2
      cases ok with
      | false =>
        obtain rfl : v = false := by rw [HV5.out, hOK]; rfl
        go_wp2_with fail
        go_ret
        exact ⟨rfl, below_step HB.out (by repeat (first | exact HBX.out | apply HSet.out))⟩
      | true =>
        obtain ⟨q, Hq⟩ : ∃ q, Hid (q = evEq R Evt.zero) := ⟨_, Lib.hid rfl⟩
        have heq := fun w => ev_eql HSr0.out sz_zero w
        rw [← Hq.out] at heq
        have hgd := ev_guard
        obtain rfl : v = q := by rw [HV5.out, hOK, Hq.out]; rfl
        rw [hR] at heq
        unfold evC Evt.zero Evt.emp at heq
        dsimp only at heq
        have g0 : World.cell? _ ⟨g, 0, none⟩ = some (.int .i64 0) := HWX.out.cell 0
        have z0 : World.frozen? _ ⟨g, 0, none⟩ = false := HWX.out.frozen 0
        have g1 : World.cell? _ ⟨g, 1, none⟩ = some (.int .i64 0) := HWX.out.cell 1
        have z1 : World.frozen? _ ⟨g, 1, none⟩ = false := HWX.out.frozen 1
        have g2 : World.cell? _ ⟨g, 2, none⟩ = some (.string ⟨#[]⟩) := HWX.out.cell 2
        have z2 : World.frozen? _ ⟨g, 2, none⟩ = false := HWX.out.frozen 2
        have g3 : World.cell? _ ⟨g, 3, none⟩ = some (.string kind) := HWX.out.cell 3
        have z3 : World.frozen? _ ⟨g, 3, none⟩ = false := HWX.out.frozen 3
        have g4 : World.cell? _ ⟨g, 4, none⟩ = some (.string into) := HWX.out.cell 4
        have z4 : World.frozen? _ ⟨g, 4, none⟩ = false := HWX.out.frozen 4
        have g5 : World.cell? _ ⟨g, 5, none⟩ = some (.string slot) := HWX.out.cell 5
        have z5 : World.frozen? _ ⟨g, 5, none⟩ = false := HWX.out.frozen 5
        have g6 : World.cell? _ ⟨g, 6, none⟩ = some (.string key) := HWX.out.cell 6
        have z6 : World.frozen? _ ⟨g, 6, none⟩ = false := HWX.out.frozen 6
        have g7 : World.cell? _ ⟨g, 7, none⟩ = some (.string value) := HWX.out.cell 7
        have z7 : World.frozen? _ ⟨g, 7, none⟩ = false := HWX.out.frozen 7
        have g8 : World.cell? _ ⟨g, 8, none⟩ = some (.int .i64 k0) := HWX.out.cell 8
        have z8 : World.frozen? _ ⟨g, 8, none⟩ = false := HWX.out.frozen 8
        have g9 : World.cell? _ ⟨g, 9, none⟩ = some (.int .i64 k1) := HWX.out.cell 9
        have z9 : World.frozen? _ ⟨g, 9, none⟩ = false := HWX.out.frozen 9
        have g10 : World.cell? _ ⟨g, 10, none⟩ = some (.int .i64 c0) := HWX.out.cell 10
        have z10 : World.frozen? _ ⟨g, 10, none⟩ = false := HWX.out.frozen 10
        have g11 : World.cell? _ ⟨g, 11, none⟩ = some (.int .i64 c1) := HWX.out.cell 11
        have z11 : World.frozen? _ ⟨g, 11, none⟩ = false := HWX.out.frozen 11
        have g12 : World.cell? _ ⟨g, 12, none⟩ = some (.int .i64 d0) := HWX.out.cell 12
        have z12 : World.frozen? _ ⟨g, 12, none⟩ = false := HWX.out.frozen 12
        have g13 : World.cell? _ ⟨g, 13, none⟩ = some (.int .i64 d1) := HWX.out.cell 13
        have z13 : World.frozen? _ ⟨g, 13, none⟩ = false := HWX.out.frozen 13
        clear HOK HRe
        go_wp2_with fail
        go_ret
        exact ⟨rfl, below_step HB.out (by repeat (first | exact HBX.out | apply HSet.out))⟩
  · have hR : R = ⟨0, 0, emp, kind, into, slot, key, value, k0, k1, c0, c1, d0, d1⟩ := by rw [HRe.out]; rfl
    obtain ⟨ok, hok⟩ : ∃ ok, ok = true := ⟨_, rfl⟩
    have hOK : OK = ok := by rw [HOK.out, hok]; rfl
    subst hok
    obtain ⟨q, Hq⟩ : ∃ q, Hid (q = evEq R Evt.zero) := ⟨_, Lib.hid rfl⟩
    have heq := fun w => ev_eql HSr0.out sz_zero w
    rw [← Hq.out] at heq
    have hgd := ev_guard
    obtain rfl : v = q := by rw [HV5.out, hOK, Hq.out]; rfl
    rw [hR] at heq
    unfold evC Evt.zero Evt.emp at heq
    dsimp only at heq
    have g0 : World.cell? _ ⟨g, 0, none⟩ = some (.int .i64 0) := HWX.out.cell 0
    have z0 : World.frozen? _ ⟨g, 0, none⟩ = false := HWX.out.frozen 0
    have g1 : World.cell? _ ⟨g, 1, none⟩ = some (.int .i64 0) := HWX.out.cell 1
    have z1 : World.frozen? _ ⟨g, 1, none⟩ = false := HWX.out.frozen 1
    have g2 : World.cell? _ ⟨g, 2, none⟩ = some (.string ⟨#[]⟩) := HWX.out.cell 2
    have z2 : World.frozen? _ ⟨g, 2, none⟩ = false := HWX.out.frozen 2
    have g3 : World.cell? _ ⟨g, 3, none⟩ = some (.string kind) := HWX.out.cell 3
    have z3 : World.frozen? _ ⟨g, 3, none⟩ = false := HWX.out.frozen 3
    have g4 : World.cell? _ ⟨g, 4, none⟩ = some (.string into) := HWX.out.cell 4
    have z4 : World.frozen? _ ⟨g, 4, none⟩ = false := HWX.out.frozen 4
    have g5 : World.cell? _ ⟨g, 5, none⟩ = some (.string slot) := HWX.out.cell 5
    have z5 : World.frozen? _ ⟨g, 5, none⟩ = false := HWX.out.frozen 5
    have g6 : World.cell? _ ⟨g, 6, none⟩ = some (.string key) := HWX.out.cell 6
    have z6 : World.frozen? _ ⟨g, 6, none⟩ = false := HWX.out.frozen 6
    have g7 : World.cell? _ ⟨g, 7, none⟩ = some (.string value) := HWX.out.cell 7
    have z7 : World.frozen? _ ⟨g, 7, none⟩ = false := HWX.out.frozen 7
    have g8 : World.cell? _ ⟨g, 8, none⟩ = some (.int .i64 k0) := HWX.out.cell 8
    have z8 : World.frozen? _ ⟨g, 8, none⟩ = false := HWX.out.frozen 8
    have g9 : World.cell? _ ⟨g, 9, none⟩ = some (.int .i64 k1) := HWX.out.cell 9
    have z9 : World.frozen? _ ⟨g, 9, none⟩ = false := HWX.out.frozen 9
    have g10 : World.cell? _ ⟨g, 10, none⟩ = some (.int .i64 c0) := HWX.out.cell 10
    have z10 : World.frozen? _ ⟨g, 10, none⟩ = false := HWX.out.frozen 10
    have g11 : World.cell? _ ⟨g, 11, none⟩ = some (.int .i64 c1) := HWX.out.cell 11
    have z11 : World.frozen? _ ⟨g, 11, none⟩ = false := HWX.out.frozen 11
    have g12 : World.cell? _ ⟨g, 12, none⟩ = some (.int .i64 d0) := HWX.out.cell 12
    have z12 : World.frozen? _ ⟨g, 12, none⟩ = false := HWX.out.frozen 12
    have g13 : World.cell? _ ⟨g, 13, none⟩ = some (.int .i64 d1) := HWX.out.cell 13
    have z13 : World.frozen? _ ⟨g, 13, none⟩ = false := HWX.out.frozen 13
    clear HOK HRe
    go_wp2_with fail
    go_ret
    exact ⟨rfl, below_step HB.out HBX.out⟩
  · have hR : R = ⟨0, 0, emp, kind, into, slot, key, value, 0, 0, 0, 0, 0, 0⟩ := by rw [HRe.out]; rfl
    have hOK : OK = (isUse k0 k1 && (isUse c0 c1 && isUse d0 d1)) := by rw [HOK.out]; rfl
    have n8 : World.cell? _ ⟨N, 8, none⟩ = some (.int .i64 k0) := (whole_belowM HA.out HBX.out).cell 8
    have n9 : World.cell? _ ⟨N, 9, none⟩ = some (.int .i64 k1) := (whole_belowM HA.out HBX.out).cell 9
    obtain ⟨o1, Ho1⟩ : ∃ b, Hid (b = isUse k0 k1) := ⟨_, Lib.hid rfl⟩
    obtain ⟨o2, Ho2⟩ : ∃ b, Hid (b = isUse c0 c1) := ⟨_, Lib.hid rfl⟩
    obtain ⟨o3, Ho3⟩ : ∃ b, Hid (b = isUse d0 d1) := ⟨_, Lib.hid rfl⟩
    rw [← Ho1.out, ← Ho2.out, ← Ho3.out] at hOK
    have q := isUse_any k0 k1 X
    rw [← Ho1.out] at q
    go_wp2_with fail
    refine q.mono ?_
    rintro e w1 ⟨rfl, hb⟩
    have HWX1 := Lib.hid (whole_belowM HWX.out hb)
    have HBX1 := Lib.hid (below_step HBX.out hb)
    clear hb q n8 n9
    cases o1 with
    | false =>
      have HWX := HWX1
      have HBX := HBX1
      obtain rfl : v = false := by rw [HV5.out, hOK]; rfl
      go_wp2_with (first
        | (with_reducible show wpList _ _ _ (Oper.mk _ (Op.store 48 _ _) _ _ _ _ :: _) _ _; refine Hid.out ?_))
      refine Lib.hid ?_
      refine wpList_store_use rfl _ _ rfl g ⟨0, 0, emp, kind, into, slot, key, value, k0, k1, c0, c1, d0, d1⟩ rfl rfl HWX.out ?_
      intro X2 hw2 hg2
      have HWX2 := Lib.hid hw2
      have HBX2 : Hid (Below V.heap.size V X2) := Lib.hid (HBX.out.grown hg2 HBX.out.size (fun y e => by cases e; rw [Hg.out]; exact Nat.le_refl _))
      clear hw2 hg2
      go_simp
      go_wp2_with fail
      go_ret
      exact ⟨rfl, below_step HB.out HBX2.out⟩
    | true =>
    have n10 : World.cell? _ ⟨N, 10, none⟩ = some (.int .i64 c0) := (whole_belowM HA.out HBX1.out).cell 10
    have n11 : World.cell? _ ⟨N, 11, none⟩ = some (.int .i64 c1) := (whole_belowM HA.out HBX1.out).cell 11
    have q := isUse_any c0 c1 w1
    rw [← Ho2.out] at q
    go_wp2_with fail
    refine q.mono ?_
    rintro e w2 ⟨rfl, hb⟩
    have HWX2 := Lib.hid (whole_belowM HWX1.out hb)
    have HBX2 := Lib.hid (below_step HBX1.out hb)
    clear hb q n10 n11
    cases o2 with
    | false =>
      have HWX := HWX2
      have HBX := HBX2
      obtain rfl : v = false := by rw [HV5.out, hOK]; rfl
      go_wp2_with (first
        | (with_reducible show wpList _ _ _ (Oper.mk _ (Op.store 48 _ _) _ _ _ _ :: _) _ _; refine Hid.out ?_))
      refine Lib.hid ?_
      refine wpList_store_use rfl _ _ rfl g ⟨0, 0, emp, kind, into, slot, key, value, k0, k1, c0, c1, d0, d1⟩ rfl rfl HWX.out ?_
      intro X2 hw2 hg2
      have HWX2 := Lib.hid hw2
      have HBX2 : Hid (Below V.heap.size V X2) := Lib.hid (HBX.out.grown hg2 HBX.out.size (fun y e => by cases e; rw [Hg.out]; exact Nat.le_refl _))
      clear hw2 hg2
      go_simp
      go_wp2_with fail
      go_ret
      exact ⟨rfl, below_step HB.out HBX2.out⟩
    | true =>
    have n12 : World.cell? _ ⟨N, 12, none⟩ = some (.int .i64 d0) := (whole_belowM HA.out HBX2.out).cell 12
    have n13 : World.cell? _ ⟨N, 13, none⟩ = some (.int .i64 d1) := (whole_belowM HA.out HBX2.out).cell 13
    have q := isUse_any d0 d1 w2
    rw [← Ho3.out] at q
    go_wp2_with fail
    refine q.mono ?_
    rintro e w3 ⟨rfl, hb⟩
    have HWX := Lib.hid (whole_belowM HWX2.out hb)
    have HBX := Lib.hid (below_step HBX2.out hb)
    clear hb q n12 n13
    obtain ⟨ok, hok⟩ : ∃ ok, ok = o3 := ⟨_, rfl⟩
    have hOK : OK = ok := by rw [hOK, hok]; rfl
    subst hok
    go_wp2_with (first
      | (with_reducible show wpList _ _ _ (Oper.mk _ (Op.store 48 _ _) _ _ _ _ :: _) _ _; refine Hid.out ?_))
    refine Lib.hid ?_
    refine wpList_store_use rfl _ _ rfl g ⟨0, 0, emp, kind, into, slot, key, value, k0, k1, c0, c1, d0, d1⟩ rfl rfl HWX.out ?_
    intro X2 hw2 hg2
    have HWX2 := Lib.hid hw2
    have HBX2 : Hid (Below V.heap.size V X2) := Lib.hid (HBX.out.grown hg2 HBX.out.size (fun y e => by cases e; rw [Hg.out]; exact Nat.le_refl _))
    clear hw2 hg2
    go_simp
    cases ok with
    | false =>
      obtain rfl : v = false := by rw [HV5.out, hOK]; rfl
      go_wp2_with fail
      go_ret
      exact ⟨rfl, below_step HB.out HBX2.out⟩
    | true =>
      obtain ⟨q, Hq⟩ : ∃ q, Hid (q = evEq R Evt.zero) := ⟨_, Lib.hid rfl⟩
      have heq := fun w => ev_eql HSr0.out sz_zero w
      rw [← Hq.out] at heq
      have hgd := ev_guard
      obtain rfl : v = q := by rw [HV5.out, hOK, Hq.out]; rfl
      rw [hR] at heq
      unfold evC Evt.zero Evt.emp at heq
      dsimp only at heq
      have g0 : World.cell? _ ⟨g, 0, none⟩ = some (.int .i64 0) := HWX2.out.cell 0
      have g1 : World.cell? _ ⟨g, 1, none⟩ = some (.int .i64 0) := HWX2.out.cell 1
      have g2 : World.cell? _ ⟨g, 2, none⟩ = some (.string ⟨#[]⟩) := HWX2.out.cell 2
      have g3 : World.cell? _ ⟨g, 3, none⟩ = some (.string kind) := HWX2.out.cell 3
      have g4 : World.cell? _ ⟨g, 4, none⟩ = some (.string into) := HWX2.out.cell 4
      have g5 : World.cell? _ ⟨g, 5, none⟩ = some (.string slot) := HWX2.out.cell 5
      have g6 : World.cell? _ ⟨g, 6, none⟩ = some (.string key) := HWX2.out.cell 6
      have g7 : World.cell? _ ⟨g, 7, none⟩ = some (.string value) := HWX2.out.cell 7
      have g8 : World.cell? _ ⟨g, 8, none⟩ = some (.int .i64 0) := HWX2.out.cell 8
      have g9 : World.cell? _ ⟨g, 9, none⟩ = some (.int .i64 0) := HWX2.out.cell 9
      have g10 : World.cell? _ ⟨g, 10, none⟩ = some (.int .i64 0) := HWX2.out.cell 10
      have g11 : World.cell? _ ⟨g, 11, none⟩ = some (.int .i64 0) := HWX2.out.cell 11
      have g12 : World.cell? _ ⟨g, 12, none⟩ = some (.int .i64 0) := HWX2.out.cell 12
      have g13 : World.cell? _ ⟨g, 13, none⟩ = some (.int .i64 0) := HWX2.out.cell 13
      clear HOK HRe
      go_wp2_with fail
      go_ret
      exact ⟨rfl, below_step HB.out HBX2.out⟩
  · have hR : R = ⟨0, 0, emp, kind, into, slot, key, value, k0, k1, c0, c1, d0, d1⟩ := by rw [HRe.out]; rfl
    obtain ⟨ok, hok⟩ : ∃ ok, ok = true := ⟨_, rfl⟩
    have hOK : OK = ok := by rw [HOK.out, hok]; rfl
    subst hok
    obtain ⟨q, Hq⟩ : ∃ q, Hid (q = evEq R Evt.zero) := ⟨_, Lib.hid rfl⟩
    have heq := fun w => ev_eql HSr0.out sz_zero w
    rw [← Hq.out] at heq
    have hgd := ev_guard
    obtain rfl : v = q := by rw [HV5.out, hOK, Hq.out]; rfl
    rw [hR] at heq
    unfold evC Evt.zero Evt.emp at heq
    dsimp only at heq
    have g0 : World.cell? _ ⟨g, 0, none⟩ = some (.int .i64 0) := HWX.out.cell 0
    have z0 : World.frozen? _ ⟨g, 0, none⟩ = false := HWX.out.frozen 0
    have g1 : World.cell? _ ⟨g, 1, none⟩ = some (.int .i64 0) := HWX.out.cell 1
    have z1 : World.frozen? _ ⟨g, 1, none⟩ = false := HWX.out.frozen 1
    have g2 : World.cell? _ ⟨g, 2, none⟩ = some (.string ⟨#[]⟩) := HWX.out.cell 2
    have z2 : World.frozen? _ ⟨g, 2, none⟩ = false := HWX.out.frozen 2
    have g3 : World.cell? _ ⟨g, 3, none⟩ = some (.string kind) := HWX.out.cell 3
    have z3 : World.frozen? _ ⟨g, 3, none⟩ = false := HWX.out.frozen 3
    have g4 : World.cell? _ ⟨g, 4, none⟩ = some (.string into) := HWX.out.cell 4
    have z4 : World.frozen? _ ⟨g, 4, none⟩ = false := HWX.out.frozen 4
    have g5 : World.cell? _ ⟨g, 5, none⟩ = some (.string slot) := HWX.out.cell 5
    have z5 : World.frozen? _ ⟨g, 5, none⟩ = false := HWX.out.frozen 5
    have g6 : World.cell? _ ⟨g, 6, none⟩ = some (.string key) := HWX.out.cell 6
    have z6 : World.frozen? _ ⟨g, 6, none⟩ = false := HWX.out.frozen 6
    have g7 : World.cell? _ ⟨g, 7, none⟩ = some (.string value) := HWX.out.cell 7
    have z7 : World.frozen? _ ⟨g, 7, none⟩ = false := HWX.out.frozen 7
    have g8 : World.cell? _ ⟨g, 8, none⟩ = some (.int .i64 k0) := HWX.out.cell 8
    have z8 : World.frozen? _ ⟨g, 8, none⟩ = false := HWX.out.frozen 8
    have g9 : World.cell? _ ⟨g, 9, none⟩ = some (.int .i64 k1) := HWX.out.cell 9
    have z9 : World.frozen? _ ⟨g, 9, none⟩ = false := HWX.out.frozen 9
    have g10 : World.cell? _ ⟨g, 10, none⟩ = some (.int .i64 c0) := HWX.out.cell 10
    have z10 : World.frozen? _ ⟨g, 10, none⟩ = false := HWX.out.frozen 10
    have g11 : World.cell? _ ⟨g, 11, none⟩ = some (.int .i64 c1) := HWX.out.cell 11
    have z11 : World.frozen? _ ⟨g, 11, none⟩ = false := HWX.out.frozen 11
    have g12 : World.cell? _ ⟨g, 12, none⟩ = some (.int .i64 d0) := HWX.out.cell 12
    have z12 : World.frozen? _ ⟨g, 12, none⟩ = false := HWX.out.frozen 12
    have g13 : World.cell? _ ⟨g, 13, none⟩ = some (.int .i64 d1) := HWX.out.cell 13
    have z13 : World.frozen? _ ⟨g, 13, none⟩ = false := HWX.out.frozen 13
    clear HOK HRe
    go_wp2_with fail
    go_ret
    exact ⟨rfl, below_step HB.out HBX.out⟩
  · have hR : R = ⟨0, 0, emp, kind, into, slot, emp, emp, k0, k1, c0, c1, d0, d1⟩ := by rw [HRe.out]; rfl
    have hOK : OK = (nm key && (!value.toList.isEmpty && decide ((value.size : Int) ≤ 200))) := by rw [HOK.out]; rfl
    have n6 : World.cell? _ ⟨N, 6, none⟩ = some (.string key) := (whole_belowM HA.out HBX.out).cell 6
    have n7 : World.cell? _ ⟨N, 7, none⟩ = some (.string value) := (whole_belowM HA.out HBX.out).cell 7
    have g6 : World.cell? _ ⟨g, 6, none⟩ = some (.string key) := HWX.out.cell 6
    have z6 : World.frozen? _ ⟨g, 6, none⟩ = false := HWX.out.frozen 6
    have g7 : World.cell? _ ⟨g, 7, none⟩ = some (.string value) := HWX.out.cell 7
    have z7 : World.frozen? _ ⟨g, 7, none⟩ = false := HWX.out.frozen 7
    obtain ⟨o1, Ho1⟩ : ∃ b, Hid (b = nm key) := ⟨_, Lib.hid rfl⟩
    obtain ⟨o2, eo2⟩ : ∃ b, value.toList.isEmpty = b := ⟨_, rfl⟩
    obtain ⟨o3, eo3⟩ : ∃ b, decide ((value.size : Int) ≤ 200) = b := ⟨_, rfl⟩
    rw [eo2, eo3, ← Ho1.out] at hOK
    have q := HN4.out X
    rw [show Lex.nameB key.data.toList = o1 from Ho1.out.symm] at q
    go_wp2_with fail
    refine q.mono ?_
    rintro e w' ⟨rfl, rfl⟩
    clear q
    cases o1 with
    | false =>
      obtain rfl : v = false := by rw [HV5.out, hOK]; rfl
      go_wp2_with fail
      go_ret
      exact ⟨rfl, below_step HB.out (by repeat (first | exact HBX.out | apply HSet.out))⟩
    | true =>
    cases o2 with
    | true =>
      obtain rfl : v = false := by rw [HV5.out, hOK]; rfl
      go_wp2_with fail
      go_ret
      exact ⟨rfl, below_step HB.out (by repeat (first | exact HBX.out | apply HSet.out))⟩
    | false =>
      obtain ⟨ok, hok⟩ : ∃ ok, ok = o3 := ⟨_, rfl⟩
      have hOK : OK = ok := by rw [hOK, hok]; rfl
      subst hok
      cases ok with
      | false =>
        obtain rfl : v = false := by rw [HV5.out, hOK]; rfl
        go_wp2_with fail
        go_ret
        exact ⟨rfl, below_step HB.out (by repeat (first | exact HBX.out | apply HSet.out))⟩
      | true =>
        obtain ⟨q, Hq⟩ : ∃ q, Hid (q = evEq R Evt.zero) := ⟨_, Lib.hid rfl⟩
        have heq := fun w => ev_eql HSr0.out sz_zero w
        rw [← Hq.out] at heq
        have hgd := ev_guard
        obtain rfl : v = q := by rw [HV5.out, hOK, Hq.out]; rfl
        rw [hR] at heq
        unfold evC Evt.zero Evt.emp at heq
        dsimp only at heq
        have g0 : World.cell? _ ⟨g, 0, none⟩ = some (.int .i64 0) := HWX.out.cell 0
        have z0 : World.frozen? _ ⟨g, 0, none⟩ = false := HWX.out.frozen 0
        have g1 : World.cell? _ ⟨g, 1, none⟩ = some (.int .i64 0) := HWX.out.cell 1
        have z1 : World.frozen? _ ⟨g, 1, none⟩ = false := HWX.out.frozen 1
        have g2 : World.cell? _ ⟨g, 2, none⟩ = some (.string ⟨#[]⟩) := HWX.out.cell 2
        have z2 : World.frozen? _ ⟨g, 2, none⟩ = false := HWX.out.frozen 2
        have g3 : World.cell? _ ⟨g, 3, none⟩ = some (.string kind) := HWX.out.cell 3
        have z3 : World.frozen? _ ⟨g, 3, none⟩ = false := HWX.out.frozen 3
        have g4 : World.cell? _ ⟨g, 4, none⟩ = some (.string into) := HWX.out.cell 4
        have z4 : World.frozen? _ ⟨g, 4, none⟩ = false := HWX.out.frozen 4
        have g5 : World.cell? _ ⟨g, 5, none⟩ = some (.string slot) := HWX.out.cell 5
        have z5 : World.frozen? _ ⟨g, 5, none⟩ = false := HWX.out.frozen 5
        have g6 : World.cell? _ ⟨g, 6, none⟩ = some (.string key) := HWX.out.cell 6
        have z6 : World.frozen? _ ⟨g, 6, none⟩ = false := HWX.out.frozen 6
        have g7 : World.cell? _ ⟨g, 7, none⟩ = some (.string value) := HWX.out.cell 7
        have z7 : World.frozen? _ ⟨g, 7, none⟩ = false := HWX.out.frozen 7
        have g8 : World.cell? _ ⟨g, 8, none⟩ = some (.int .i64 k0) := HWX.out.cell 8
        have z8 : World.frozen? _ ⟨g, 8, none⟩ = false := HWX.out.frozen 8
        have g9 : World.cell? _ ⟨g, 9, none⟩ = some (.int .i64 k1) := HWX.out.cell 9
        have z9 : World.frozen? _ ⟨g, 9, none⟩ = false := HWX.out.frozen 9
        have g10 : World.cell? _ ⟨g, 10, none⟩ = some (.int .i64 c0) := HWX.out.cell 10
        have z10 : World.frozen? _ ⟨g, 10, none⟩ = false := HWX.out.frozen 10
        have g11 : World.cell? _ ⟨g, 11, none⟩ = some (.int .i64 c1) := HWX.out.cell 11
        have z11 : World.frozen? _ ⟨g, 11, none⟩ = false := HWX.out.frozen 11
        have g12 : World.cell? _ ⟨g, 12, none⟩ = some (.int .i64 d0) := HWX.out.cell 12
        have z12 : World.frozen? _ ⟨g, 12, none⟩ = false := HWX.out.frozen 12
        have g13 : World.cell? _ ⟨g, 13, none⟩ = some (.int .i64 d1) := HWX.out.cell 13
        have z13 : World.frozen? _ ⟨g, 13, none⟩ = false := HWX.out.frozen 13
        clear HOK HRe
        go_wp2_with fail
        go_ret
        exact ⟨rfl, below_step HB.out (by repeat (first | exact HBX.out | apply HSet.out))⟩
  · have hR : R = ⟨0, 0, emp, kind, into, slot, key, value, k0, k1, c0, c1, d0, d1⟩ := by rw [HRe.out]; rfl
    obtain ⟨ok, hok⟩ : ∃ ok, ok = true := ⟨_, rfl⟩
    have hOK : OK = ok := by rw [HOK.out, hok]; rfl
    subst hok
    obtain ⟨q, Hq⟩ : ∃ q, Hid (q = evEq R Evt.zero) := ⟨_, Lib.hid rfl⟩
    have heq := fun w => ev_eql HSr0.out sz_zero w
    rw [← Hq.out] at heq
    have hgd := ev_guard
    obtain rfl : v = q := by rw [HV5.out, hOK, Hq.out]; rfl
    rw [hR] at heq
    unfold evC Evt.zero Evt.emp at heq
    dsimp only at heq
    have g0 : World.cell? _ ⟨g, 0, none⟩ = some (.int .i64 0) := HWX.out.cell 0
    have z0 : World.frozen? _ ⟨g, 0, none⟩ = false := HWX.out.frozen 0
    have g1 : World.cell? _ ⟨g, 1, none⟩ = some (.int .i64 0) := HWX.out.cell 1
    have z1 : World.frozen? _ ⟨g, 1, none⟩ = false := HWX.out.frozen 1
    have g2 : World.cell? _ ⟨g, 2, none⟩ = some (.string ⟨#[]⟩) := HWX.out.cell 2
    have z2 : World.frozen? _ ⟨g, 2, none⟩ = false := HWX.out.frozen 2
    have g3 : World.cell? _ ⟨g, 3, none⟩ = some (.string kind) := HWX.out.cell 3
    have z3 : World.frozen? _ ⟨g, 3, none⟩ = false := HWX.out.frozen 3
    have g4 : World.cell? _ ⟨g, 4, none⟩ = some (.string into) := HWX.out.cell 4
    have z4 : World.frozen? _ ⟨g, 4, none⟩ = false := HWX.out.frozen 4
    have g5 : World.cell? _ ⟨g, 5, none⟩ = some (.string slot) := HWX.out.cell 5
    have z5 : World.frozen? _ ⟨g, 5, none⟩ = false := HWX.out.frozen 5
    have g6 : World.cell? _ ⟨g, 6, none⟩ = some (.string key) := HWX.out.cell 6
    have z6 : World.frozen? _ ⟨g, 6, none⟩ = false := HWX.out.frozen 6
    have g7 : World.cell? _ ⟨g, 7, none⟩ = some (.string value) := HWX.out.cell 7
    have z7 : World.frozen? _ ⟨g, 7, none⟩ = false := HWX.out.frozen 7
    have g8 : World.cell? _ ⟨g, 8, none⟩ = some (.int .i64 k0) := HWX.out.cell 8
    have z8 : World.frozen? _ ⟨g, 8, none⟩ = false := HWX.out.frozen 8
    have g9 : World.cell? _ ⟨g, 9, none⟩ = some (.int .i64 k1) := HWX.out.cell 9
    have z9 : World.frozen? _ ⟨g, 9, none⟩ = false := HWX.out.frozen 9
    have g10 : World.cell? _ ⟨g, 10, none⟩ = some (.int .i64 c0) := HWX.out.cell 10
    have z10 : World.frozen? _ ⟨g, 10, none⟩ = false := HWX.out.frozen 10
    have g11 : World.cell? _ ⟨g, 11, none⟩ = some (.int .i64 c1) := HWX.out.cell 11
    have z11 : World.frozen? _ ⟨g, 11, none⟩ = false := HWX.out.frozen 11
    have g12 : World.cell? _ ⟨g, 12, none⟩ = some (.int .i64 d0) := HWX.out.cell 12
    have z12 : World.frozen? _ ⟨g, 12, none⟩ = false := HWX.out.frozen 12
    have g13 : World.cell? _ ⟨g, 13, none⟩ = some (.int .i64 d1) := HWX.out.cell 13
    have z13 : World.frozen? _ ⟨g, 13, none⟩ = false := HWX.out.frozen 13
    clear HOK HRe
    go_wp2_with fail
    go_ret
    exact ⟨rfl, below_step HB.out HBX.out⟩
end Go.Proofs.YtfkejnnbfneieaaGreatDoor
