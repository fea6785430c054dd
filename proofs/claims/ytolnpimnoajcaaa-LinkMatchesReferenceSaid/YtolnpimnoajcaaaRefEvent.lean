/- The reference's event: Valid. -/
import Derived.Test.YtolnpimnoajcaaaEvtValid
import Derived.Test.YtolnpimnoajcaaaLexRefN
import Derived.Test.YtolnpimnoajcaaaRepNamesW
import Derived.Test.YtolnpimnoajcaaaRepNames
import Derived.Test.YtolnpimnoajcaaaLnkIn
import Derived.Lib.MinMaxS
namespace Go.Proofs.Ytolnpimnoajcaaa
open Go.RowKit
open Evt

namespace Evt
/-- All strings are of a moderate size. -/
structure Shrt (e : Ev) : Prop where
  part : e.part.size ≤ 300
  kind : e.kind.size ≤ 300
  into : e.into.size ≤ 300
  slot : e.slot.size ≤ 300
  key : e.key.size ≤ 300
  value : e.value.size ≤ 300
def refRest (e : Ev) : Ev :=
  if e.op = 1 then { zero with op := e.op, day := e.day, part := e.part, kind := e.kind }
  else if e.op = 2 then { zero with op := e.op, day := e.day, part := e.part, into := e.into, slot := e.slot }
  else if e.op = 4 then { zero with op := e.op, day := e.day, part := e.part, k0 := e.k0, k1 := e.k1, c0 := e.c0, c1 := e.c1, d0 := e.d0, d1 := e.d1 }
  else if e.op = 6 then { zero with op := e.op, day := e.day, part := e.part, key := e.key, value := e.value }
  else { zero with op := e.op, day := e.day, part := e.part }
theorem ref_rest (e : Ev) : refRest e = e ↔ restOf e = zero := by
  obtain ⟨op, day, part, kind, into, slot, key, value, k0, k1, c0, c1, d0, d1⟩ := e
  unfold refRest restOf zero
  dsimp only
  split
  · simp only [emp, Ev.mk.injEq, true_and, and_true]
    repeat (refine and_congr eq_comm ?_)
    exact eq_comm
  · split
    · simp only [emp, Ev.mk.injEq, true_and, and_true]
      repeat (refine and_congr eq_comm ?_)
      exact eq_comm
    · split
      · simp only [emp, Ev.mk.injEq, true_and, and_true]
        repeat (refine and_congr eq_comm ?_)
        exact eq_comm
      · split
        · simp only [emp, Ev.mk.injEq, true_and, and_true]
          repeat (refine and_congr eq_comm ?_)
          exact eq_comm
        · simp only [emp, Ev.mk.injEq, true_and, and_true]
          repeat (refine and_congr eq_comm ?_)
          exact eq_comm
theorem ref_rest_eq (e : Ev) : evEq (refRest e) e = evEq (restOf e) zero := by
  rw [Bool.eq_iff_iff, evEq_iff, evEq_iff]
  exact ref_rest e
theorem sz_refRest {e : Ev} (h : Sz e) : Sz (refRest e) := by
  obtain ⟨h0, h1, h2, h3, h4, h5, h6, h7, h8, h9, g0, g1, g2, g3⟩ := h
  unfold refRest
  split
  · exact ⟨h0, h1, h2, h3, st_emp, st_emp, st_emp, st_emp, i64_zero, i64_zero, i64_zero, i64_zero, i64_zero, i64_zero⟩
  · split
    · exact ⟨h0, h1, h2, st_emp, h4, h5, st_emp, st_emp, i64_zero, i64_zero, i64_zero, i64_zero, i64_zero, i64_zero⟩
    · split
      · exact ⟨h0, h1, h2, st_emp, st_emp, st_emp, st_emp, st_emp, h8, h9, g0, g1, g2, g3⟩
      · split
        · exact ⟨h0, h1, h2, st_emp, st_emp, st_emp, h6, h7, i64_zero, i64_zero, i64_zero, i64_zero, i64_zero, i64_zero⟩
        · exact ⟨h0, h1, h2, st_emp, st_emp, st_emp, st_emp, st_emp, i64_zero, i64_zero, i64_zero, i64_zero, i64_zero, i64_zero⟩
end Evt

set_option maxRecDepth 100000 in
theorem refInterval_any (a b : Int) (W : World) :
    Calls Try.prog 73 #[.agg #[.int .i64 a, .int .i64 b]] W fun e w' => e = .returned (.bool (Evt.isUse a b)) ∧ Below W.heap.size W w' := by
  have HB : Hid (∀ o, Below W.heap.size W (W.alloc o)) := Lib.hid (fun o => (Below.refl _ _).alloc (Nat.le_refl _) _)
  unfold Evt.isUse
  obtain ⟨b1, e1⟩ : ∃ x, decide (0 ≤ a) = x := ⟨_, rfl⟩
  obtain ⟨b2, e2⟩ : ∃ x, decide (a ≤ b) = x := ⟨_, rfl⟩
  obtain ⟨b3, e3⟩ : ∃ x, decide (b ≤ 1000000) = x := ⟨_, rfl⟩
  rw [e1, e2, e3]
  go_enter Try.func73, Try.ntmps73
  cases b1 <;> cases b2
  all_goals
    go_wp2_with fail
    go_ret
    exact ⟨rfl, HB.out _⟩
set_option maxRecDepth 100000 in
set_option maxHeartbeats 4000000 in
theorem refUse_any (a b c d e f : Int) (W : World) :
    Calls Try.prog 58 #[.agg #[.int .i64 a, .int .i64 b, .int .i64 c, .int .i64 d, .int .i64 e, .int .i64 f]] W fun r w' => r = .returned (.bool (Evt.isUse a b && (Evt.isUse c d && Evt.isUse e f))) ∧ Below W.heap.size W w' := by
  obtain ⟨N, HN⟩ : ∃ N, Hid (N = W.heap.size) := ⟨_, Lib.hid rfl⟩
  obtain ⟨V, HV⟩ : ∃ w, Hid (w = W.alloc (.cells #[.int .i64 a, .int .i64 b, .int .i64 c, .int .i64 d, .int .i64 e, .int .i64 f] 50)) := ⟨_, Lib.hid rfl⟩
  have HB : Hid (Below W.heap.size W V) := Lib.hid (by rw [HV.out]; exact (Below.refl _ _).alloc (Nat.le_refl _) _)
  have HA : Hid (Whole V N 50 #[.int .i64 a, .int .i64 b, .int .i64 c, .int .i64 d, .int .i64 e, .int .i64 f]) := Lib.hid (by rw [HV.out, HN.out]; exact Whole.new _ _ _)
  obtain ⟨o1, Ho1⟩ : ∃ x, Hid (x = Evt.isUse a b) := ⟨_, Lib.hid rfl⟩
  obtain ⟨o2, Ho2⟩ : ∃ x, Hid (x = Evt.isUse c d) := ⟨_, Lib.hid rfl⟩
  obtain ⟨o3, Ho3⟩ : ∃ x, Hid (x = Evt.isUse e f) := ⟨_, Lib.hid rfl⟩
  have H1 := Lib.hid (fun w => refInterval_any a b w)
  have H2 := Lib.hid (fun w => refInterval_any c d w)
  have H3 := Lib.hid (fun w => refInterval_any e f w)
  rw [← Ho1.out] at H1
  rw [← Ho2.out] at H2
  rw [← Ho3.out] at H3
  rw [← Ho1.out, ← Ho2.out, ← Ho3.out]
  have n0 : V.cell? ⟨N, 0, none⟩ = some (.int .i64 a) := HA.out.cell 0
  have n1 : V.cell? ⟨N, 1, none⟩ = some (.int .i64 b) := HA.out.cell 1
  go_enter Try.func58, Try.ntmps58
  go_upto_region 1 with fail
  rw [← HV.out, ← HN.out]
  go_wp2_with fail
  refine (H1.out _).mono ?_
  rintro r w1 ⟨rfl, hb⟩
  have HB1 := Lib.hid (below_step HB.out hb)
  have HA1 := Lib.hid (whole_belowM HA.out hb)
  clear hb n0 n1
  cases o1 with
  | false =>
    go_wp2_with fail
    go_ret
    exact ⟨rfl, HB1.out⟩
  | true =>
  have n0 : w1.cell? ⟨N, 2, none⟩ = some (.int .i64 c) := HA1.out.cell 2
  have n1 : w1.cell? ⟨N, 3, none⟩ = some (.int .i64 d) := HA1.out.cell 3
  go_wp2_with fail
  refine (H2.out _).mono ?_
  rintro r w2 ⟨rfl, hb⟩
  have HB2 := Lib.hid (below_step HB1.out hb)
  have HA2 := Lib.hid (whole_belowM HA1.out hb)
  clear hb n0 n1
  cases o2 with
  | false =>
    go_wp2_with fail
    go_ret
    exact ⟨rfl, HB2.out⟩
  | true =>
  have n0 : w2.cell? ⟨N, 4, none⟩ = some (.int .i64 e) := HA2.out.cell 4
  have n1 : w2.cell? ⟨N, 5, none⟩ = some (.int .i64 f) := HA2.out.cell 5
  go_wp2_with fail
  refine (H3.out _).mono ?_
  rintro r w3 ⟨rfl, hb⟩
  have HB3 := Lib.hid (below_step HB2.out hb)
  clear hb
  go_wp2_with fail
  go_ret
  exact ⟨rfl, HB3.out⟩
end Go.Proofs.Ytolnpimnoajcaaa

/- The reference's event: Valid, Names. -/
namespace Go.Proofs.Ytolnpimnoajcaaa
open Go.RowKit
open Evt

theorem wpList_load_yes {P : Program} {ops : Array Oper} {rest : List Oper} {op : Oper} {a : Act} {w : World} {Q : Exit → Act → World → Prop} (hw : Region.wanted op (yielded ops a.tmps) = true) (ty : TypeId) (x : Operand) (ho : op.op = .load ty x)
    (b o : Nat) (hx : a.eval x = .pointer (some ⟨b, o, none⟩)) (cs : List Value) (d : TypeDesc) (hc : w.rangeAt b o cs)
    (hu : P.underlying ty = some d) (hd : d.isRow = true) (hi : (P.info? ty).map (·.size) = some cs.length)
    (h : wpList P ops Q rest (a.put op.dst (.agg cs.toArray)) w) : wpList P ops Q (op :: rest) a w :=
  wpList_step fun _ hK => by
    rw [if_pos hw]
    exact wp_load_mid ty x ho b o hx cs d hc hu hd hi (hK _ _ h)
theorem use_wholeG {w : World} {g : Nat} {e : Ev} (hw : Whole w g 52 (evC e).toArray) (k0 k1 c0 c1 d0 d1 : Int) :
    Whole ((((((w.setCell ⟨g, 8, none⟩ (.int .i64 k0)).setCell ⟨g, 9, none⟩ (.int .i64 k1)).setCell ⟨g, 10, none⟩ (.int .i64 c0)).setCell ⟨g, 11, none⟩ (.int .i64 c1)).setCell ⟨g, 12, none⟩ (.int .i64 d0)).setCell ⟨g, 13, none⟩ (.int .i64 d1)) g 52 (evC { e with k0 := k0, k1 := k1, c0 := c0, c1 := c1, d0 := d0, d1 := d1 }).toArray := by
  have h1 := whole_setM hw 8 (.int .i64 k0) (cs' := evC { e with k0 := k0 }) rfl
  have h2 := whole_setM h1 9 (.int .i64 k1) (cs' := evC { e with k0 := k0, k1 := k1 }) rfl
  have h3 := whole_setM h2 10 (.int .i64 c0) (cs' := evC { e with k0 := k0, k1 := k1, c0 := c0 }) rfl
  have h4 := whole_setM h3 11 (.int .i64 c1) (cs' := evC { e with k0 := k0, k1 := k1, c0 := c0, c1 := c1 }) rfl
  have h5 := whole_setM h4 12 (.int .i64 d0) (cs' := evC { e with k0 := k0, k1 := k1, c0 := c0, c1 := c1, d0 := d0 }) rfl
  exact whole_setM h5 13 (.int .i64 d1) (cs' := evC { e with k0 := k0, k1 := k1, c0 := c0, c1 := c1, d0 := d0, d1 := d1 }) rfl
theorem use_grownG {w : World} {g : Nat} (k0 k1 c0 c1 d0 d1 : Int) : w.grownBy ((((((w.setCell ⟨g, 8, none⟩ (.int .i64 k0)).setCell ⟨g, 9, none⟩ (.int .i64 k1)).setCell ⟨g, 10, none⟩ (.int .i64 c0)).setCell ⟨g, 11, none⟩ (.int .i64 c1)).setCell ⟨g, 12, none⟩ (.int .i64 d0)).setCell ⟨g, 13, none⟩ (.int .i64 d1)) (some g) :=
  grown_set (grown_set (grown_set (grown_set (grown_set (grown_set ⟨rfl, rfl, rfl, Nat.le_refl _, fun _ _ _ => rfl⟩ _ _) _ _) _ _) _ _) _ _) _ _
set_option maxRecDepth 100000 in
set_option maxHeartbeats 4000000 in
theorem wpList_store_useG {ops : Array Oper} {rest : List Oper} {op : Oper} {a : Act} {w : World} {Q : Exit → Act → World → Prop} (hgd : op.guard = none) (x y : Operand) (ho : op.op = .store 50 x y) (g : Nat) (e : Ev) (k0 k1 c0 c1 d0 d1 : Int)
    (hx : a.eval x = .pointer (some ⟨g, 8, none⟩)) (hy : a.eval y = .agg #[.int .i64 k0, .int .i64 k1, .int .i64 c0, .int .i64 c1, .int .i64 d0, .int .i64 d1]) (hw : Whole w g 52 (evC e).toArray)
    (h : ∀ w', Whole w' g 52 (evC { e with k0 := k0, k1 := k1, c0 := c0, c1 := c1, d0 := d0, d1 := d1 }).toArray → w.grownBy w' (some g) → wpList Try.prog ops Q rest (a.put op.dst undef) w') : wpList Try.prog ops Q (op :: rest) a w :=
  wpList_store_mid hgd _ x y ho g 8 #[.int .i64 k0, .int .i64 k1, .int .i64 c0, .int .i64 c1, .int .i64 d0, .int .i64 d1] hx hy
    (fun j hj => by
      rw [hw.cell, hw.frozen]
      refine ⟨?_, rfl⟩
      have hj : j < 6 := hj
      rw [Array.getElem?_eq_getElem (by show 8 + j < 14; omega)]
      rfl)
    (by kernel_rfl) (by simp [Value.oneCell']) (by
      have e : w.setCells g 8 [.int .i64 k0, .int .i64 k1, .int .i64 c0, .int .i64 c1, .int .i64 d0, .int .i64 d1] = (((((w.setCell ⟨g, 8, none⟩ (.int .i64 k0)).setCell ⟨g, 9, none⟩ (.int .i64 k1)).setCell ⟨g, 10, none⟩ (.int .i64 c0)).setCell ⟨g, 11, none⟩ (.int .i64 c1)).setCell ⟨g, 12, none⟩ (.int .i64 d0)).setCell ⟨g, 13, none⟩ (.int .i64 d1) := rfl
      rw [show (#[.int .i64 k0, .int .i64 k1, .int .i64 c0, .int .i64 c1, .int .i64 d0, .int .i64 d1] : Array Value).toList = [.int .i64 k0, .int .i64 k1, .int .i64 c0, .int .i64 c1, .int .i64 d0, .int .i64 d1] from rfl, e]
      exact h _ (use_wholeG hw k0 k1 c0 c1 d0 d1) (use_grownG k0 k1 c0 c1 d0 d1))
theorem use_size : (Try.prog.info? 50).map (·.size) = some 6 := by kernel_rfl
set_option maxRecDepth 100000 in
set_option maxHeartbeats 8000000 in
theorem refValid_any (e : Ev) (hz : Sz e) (hs : Shrt e) (W : World) :
    Calls Try.prog 51 #[.agg (evC e).toArray] W fun r w' => r = .returned (.bool (Evt.valid e)) ∧ Below W.heap.size W w' := by
  obtain ⟨v, Hv⟩ : ∃ v, Hid (v = Evt.valid e) := ⟨_, Lib.hid rfl⟩
  rw [← Hv.out]
  have HSr := Lib.hid (sz_refRest hz)
  have HSz := Lib.hid hz
  have HSp := Lib.hid ev_size
  obtain ⟨E, HE⟩ : ∃ r, Hid (r = e) := ⟨_, Lib.hid rfl⟩
  obtain ⟨R, HRe⟩ : ∃ r, Hid (r = refRest e) := ⟨_, Lib.hid rfl⟩
  obtain ⟨OK, HOK⟩ : ∃ r, Hid (r = okE e) := ⟨_, Lib.hid rfl⟩
  have HV0 : Hid (v = (!decide (e.op < 1) && (!decide (7 < e.op) && (!decide (e.day < 0) && (!decide (40000 < e.day) && (nm e.part && (OK && evEq R E))))))) := Lib.hid (by
    rw [Hv.out, HRe.out, HE.out, HOK.out, ref_rest_eq]; rfl)
  rw [← HRe.out] at HSr
  rw [← HE.out] at HSz
  clear Hv
  obtain ⟨N, HN⟩ : ∃ N, Hid (N = W.heap.size) := ⟨_, Lib.hid rfl⟩
  obtain ⟨V, HV⟩ : ∃ w, Hid (w = W.alloc (.cells (evC e).toArray 52)) := ⟨_, Lib.hid rfl⟩
  have HB : Hid (Below W.heap.size W V) := Lib.hid (by rw [HV.out]; exact (Below.refl _ _).alloc (Nat.le_refl _) _)
  have HA : Hid (Whole V N 52 (evC E).toArray) := Lib.hid (by rw [HE.out, HV.out, HN.out]; exact Whole.new _ _ _)
  obtain ⟨op, day, part, kind, into, slot, key, value, k0, k1, c0, c1, e0, e1⟩ := e
  dsimp only at HV0
  have HN0 := Lib.hid (fun w => refName_any part (Nat.le_trans hs.part (by decide)) w)
  have HN1 := Lib.hid (fun w => refName_any kind (Nat.le_trans hs.kind (by decide)) w)
  have HN2 := Lib.hid (fun w => refName_any into (Nat.le_trans hs.into (by decide)) w)
  have HN3 := Lib.hid (fun w => refName_any slot (Nat.le_trans hs.slot (by decide)) w)
  have HN4 := Lib.hid (fun w => refName_any key (Nat.le_trans hs.key (by decide)) w)
  have hval : value.size ≤ 300 := hs.value
  have HC : Hid (∀ w, Below V.heap.size V w → ∀ j u, (evC ⟨op, day, part, kind, into, slot, key, value, k0, k1, c0, c1, e0, e1⟩)[j]? = some u → w.cell? ⟨N, j, none⟩ = some u) := Lib.hid (fun w hw j u hu => by
    rw [(whole_belowM HA.out hw).cell, HE.out]
    simpa using hu)
  unfold evC at HV
  dsimp only at HV
  clear hz hs
  obtain ⟨y1, d1⟩ : ∃ b, decide (op < 1) = b := ⟨_, rfl⟩
  obtain ⟨y2, d2⟩ : ∃ b, decide (7 < op) = b := ⟨_, rfl⟩
  obtain ⟨y3, d3⟩ : ∃ b, decide (day < 0) = b := ⟨_, rfl⟩
  obtain ⟨y4, d4⟩ : ∃ b, decide (40000 < day) = b := ⟨_, rfl⟩
  obtain ⟨y5, Hy5⟩ : ∃ b, Hid (b = nm part) := ⟨_, Lib.hid rfl⟩
  rw [d1, d2, d3, d4, ← Hy5.out] at HV0
  have q5 := HN0.out V
  rw [show Lex.nameB part.data.toList = y5 from Hy5.out.symm] at q5
  have n0 : V.cell? ⟨N, 0, none⟩ = some (.int .i64 op) := HC.out V (Below.refl _ _) 0 _ rfl
  have n1 : V.cell? ⟨N, 1, none⟩ = some (.int .i64 day) := HC.out V (Below.refl _ _) 1 _ rfl
  have n2 : V.cell? ⟨N, 2, none⟩ = some (.string part) := HC.out V (Below.refl _ _) 2 _ rfl
  unfold evC
  go_enter Try.func51, Try.ntmps51
  go_upto_region 1 with fail
  rw [← HV.out, ← HN.out]
  cases y1 with
  | true =>
    obtain rfl : v = false := by rw [HV0.out]; rfl
    go_wp2_with fail
    go_ret
    exact ⟨rfl, HB.out⟩
  | false =>
  cases y2 with
  | true =>
    obtain rfl : v = false := by rw [HV0.out]; rfl
    go_wp2_with fail
    go_ret
    exact ⟨rfl, HB.out⟩
  | false =>
  cases y3 with
  | true =>
    obtain rfl : v = false := by rw [HV0.out]; rfl
    go_wp2_with fail
    go_ret
    exact ⟨rfl, HB.out⟩
  | false =>
  cases y4 with
  | true =>
    obtain rfl : v = false := by rw [HV0.out]; rfl
    go_wp2_with fail
    go_ret
    exact ⟨rfl, HB.out⟩
  | false =>
  go_wp2_with fail
  refine q5.mono ?_
  rintro e w' ⟨rfl, rfl⟩
  cases y5 with
  | false =>
    obtain rfl : v = false := by rw [HV0.out]; rfl
    go_wp2_with fail
    go_ret
    exact ⟨rfl, HB.out⟩
  | true =>
  have hop : op = 1 ∨ op = 2 ∨ op = 3 ∨ op = 4 ∨ op = 5 ∨ op = 6 ∨ op = 7 := by
    have := of_decide_eq_false d1; have := of_decide_eq_false d2; omega
  have HV5 : Hid (v = (OK && evEq R E)) := Lib.hid (by rw [HV0.out]; rfl)
  have HOp := Lib.hid hop
  clear d1 d2 d3 d4 q5 hop
  obtain ⟨g, Hg⟩ : ∃ g, Hid (g = V.heap.size) := ⟨_, Lib.hid rfl⟩
  obtain ⟨U, HU⟩ : ∃ w, Hid (w = V.alloc (.cells (evC ⟨op, day, part, emp, emp, emp, emp, emp, 0, 0, 0, 0, 0, 0⟩).toArray 52)) := ⟨_, Lib.hid rfl⟩
  have HWU : Hid (Whole U g 52 (evC ⟨op, day, part, emp, emp, emp, emp, emp, 0, 0, 0, 0, 0, 0⟩).toArray) := Lib.hid (by rw [HU.out, Hg.out]; exact Whole.new _ _ _)
  have HBU : Hid (Below V.heap.size V U) := Lib.hid (by rw [HU.out]; exact (Below.refl _ _).alloc (Nat.le_refl _) _)
  have HSet : Hid (∀ (w : World) (i : Nat) (u : Value), Below V.heap.size V w → Below V.heap.size V (w.setCell ⟨g, i, none⟩ u)) := Lib.hid (fun w i u h => h.grown (row := some g) ⟨rfl, rfl, rfl, by simp, fun j _ hj => Below.heap_setCell _ _ _ _ (fun e => hj (by rw [e]))⟩ h.size (fun y e => by cases e; rw [Hg.out]; exact Nat.le_refl _))
  go_upto_region 5 with fail
  rw [show (V.alloc (.cells #[Value.int .i64 op, .int .i64 day, .string part, .string ⟨#[]⟩, .string ⟨#[]⟩, .string ⟨#[]⟩, .string ⟨#[]⟩, .string ⟨#[]⟩, .int .i64 0, .int .i64 0, .int .i64 0, .int .i64 0, .int .i64 0, .int .i64 0] 52)) = U from HU.out.symm, ← Hg.out]
  clear n0 n1 n2
  have n0 : U.cell? ⟨N, 0, none⟩ = some (.int .i64 op) := HC.out U HBU.out 0 _ rfl
  rcases HOp.out with rfl | rfl | rfl | rfl | rfl | rfl | rfl
  · have hOK : OK = nm kind := by rw [HOK.out]; rfl
    have n3 : U.cell? ⟨N, 3, none⟩ = some (.string kind) := HC.out U HBU.out 3 _ rfl
    have u3 : U.cell? ⟨g, 3, none⟩ = some (.string ⟨#[]⟩) := HWU.out.cell 3
    have z3 : U.frozen? ⟨g, 3, none⟩ = false := HWU.out.frozen 3
    obtain ⟨X, HX⟩ : ∃ w, Hid (w = U.setCell ⟨g, 3, none⟩ (.string kind)) := ⟨_, Lib.hid rfl⟩
    have HWX : Hid (Whole X g 52 (evC R).toArray) := Lib.hid (by rw [HX.out, HRe.out]; exact whole_setM HWU.out 3 _ rfl)
    have HBX : Hid (Below V.heap.size V X) := Lib.hid (by rw [HX.out]; exact HSet.out _ _ _ HBU.out)
    obtain ⟨ok, Hok⟩ : ∃ b, Hid (b = nm kind) := ⟨_, Lib.hid rfl⟩
    have q := HN1.out X
    rw [show Lex.nameB kind.data.toList = ok from Hok.out.symm] at q
    rw [← Hok.out] at hOK
    go_upto_region 8 with fail
    rw [← HX.out]
    clear n0 n3 u3 z3
    have n3 : X.cell? ⟨N, 3, none⟩ = some (.string kind) := HC.out X HBX.out 3 _ rfl
    go_wp2_with fail
    refine q.mono ?_
    rintro e w' ⟨rfl, rfl⟩
    clear n3 q
    cases ok with
    | false =>
      obtain rfl : v = false := by rw [HV5.out, hOK]; rfl
      go_wp2_with fail
      go_ret
      exact ⟨rfl, below_step HB.out HBX.out⟩
    | true =>
      obtain ⟨q, Hq⟩ : ∃ q, Hid (q = evEq R E) := ⟨_, Lib.hid rfl⟩
      have heq := fun w => ev_eql HSr.out HSz.out w
      rw [← Hq.out] at heq
      have hgd := ev_guard
      obtain rfl : v = q := by rw [HV5.out, hOK, Hq.out]; rfl
      go_wp2_with (first
        | (with_reducible show wpList _ _ _ (Oper.mk _ (Op.load 52 _) _ _ _ _ :: _) _ _; refine Hid.out ?_))
      refine Lib.hid ?_
      refine wpList_load_yes rfl _ _ rfl g 0 rfl _ _ HWX.out.range Try.underlying52 rfl (HSp.out.trans rfl) ?_
      go_simp
      refine wpList_load_yes rfl _ _ rfl N 0 rfl _ _ (whole_belowM HA.out HBX.out).range Try.underlying52 rfl (HSp.out.trans rfl) ?_
      go_simp
      go_wp2_with fail
      go_ret
      exact ⟨rfl, below_step HB.out HBX.out⟩
  · have hOK : OK = (nm into && ((into.toList != part.toList) && nm slot)) := by rw [HOK.out]; rfl
    have n4 : U.cell? ⟨N, 4, none⟩ = some (.string into) := HC.out U HBU.out 4 _ rfl
    have n5 : U.cell? ⟨N, 5, none⟩ = some (.string slot) := HC.out U HBU.out 5 _ rfl
    have u4 : U.cell? ⟨g, 4, none⟩ = some (.string ⟨#[]⟩) := HWU.out.cell 4
    have z4 : U.frozen? ⟨g, 4, none⟩ = false := HWU.out.frozen 4
    have u5 : U.cell? ⟨g, 5, none⟩ = some (.string ⟨#[]⟩) := HWU.out.cell 5
    have z5 : U.frozen? ⟨g, 5, none⟩ = false := HWU.out.frozen 5
    have hNg : ¬ g = N := by have := HA.out.lt; have := Hg.out; omega
    have hgN : ¬ N = g := by have := HA.out.lt; have := Hg.out; omega
    obtain ⟨X, HX⟩ : ∃ w, Hid (w = (U.setCell ⟨g, 4, none⟩ (.string into)).setCell ⟨g, 5, none⟩ (.string slot)) := ⟨_, Lib.hid rfl⟩
    have HWX : Hid (Whole X g 52 (evC R).toArray) := Lib.hid (by rw [HX.out, HRe.out]; exact whole_setM (whole_setM HWU.out 4 _ rfl) 5 _ rfl)
    have HBX : Hid (Below V.heap.size V X) := Lib.hid (by rw [HX.out]; exact HSet.out _ _ _ (HSet.out _ _ _ HBU.out))
    obtain ⟨o1, Ho1⟩ : ∃ b, Hid (b = nm into) := ⟨_, Lib.hid rfl⟩
    obtain ⟨o3, Ho3⟩ : ∃ b, Hid (b = nm slot) := ⟨_, Lib.hid rfl⟩
    obtain ⟨o2, eo2⟩ : ∃ b, (into.toList == part.toList) = b := ⟨_, rfl⟩
    have no2 : (into.toList != part.toList) = !o2 := by rw [bne, eo2]
    rw [no2, ← Ho1.out, ← Ho3.out] at hOK
    have q := HN2.out X
    rw [show Lex.nameB into.data.toList = o1 from Ho1.out.symm] at q
    have q' := HN3.out X
    rw [show Lex.nameB slot.data.toList = o3 from Ho3.out.symm] at q'
    go_upto_region 12 with fail
    rw [← HX.out]
    clear n0 n4 n5 u4 z4 u5 z5
    have n4 : X.cell? ⟨N, 4, none⟩ = some (.string into) := HC.out X HBX.out 4 _ rfl
    have n5 : X.cell? ⟨N, 5, none⟩ = some (.string slot) := HC.out X HBX.out 5 _ rfl
    have n2 : X.cell? ⟨N, 2, none⟩ = some (.string part) := HC.out X HBX.out 2 _ rfl
    go_wp2_with fail
    refine q.mono ?_
    rintro e w' ⟨rfl, rfl⟩
    cases o1 with
    | false =>
      obtain rfl : v = false := by rw [HV5.out, hOK]; rfl
      clear q q'
      go_wp2_with fail
      go_ret
      exact ⟨rfl, below_step HB.out HBX.out⟩
    | true =>
    go_wp2_with fail
    refine q'.mono ?_
    rintro e w' ⟨rfl, rfl⟩
    cases o3 with
    | false =>
      obtain rfl : v = false := by rw [HV5.out, hOK]; cases o2 <;> rfl
      clear q q'
      go_wp2_with fail
      go_ret
      exact ⟨rfl, below_step HB.out HBX.out⟩
    | true =>
    clear q q'
    cases o2 with
    | true =>
      obtain rfl : v = false := by rw [HV5.out, hOK]; rfl
      clear no2
      go_wp2_with fail
      go_ret
      exact ⟨rfl, below_step HB.out HBX.out⟩
    | false =>
      clear no2
      have hOK : OK = true := by rw [hOK]; rfl
      obtain ⟨q, Hq⟩ : ∃ q, Hid (q = evEq R E) := ⟨_, Lib.hid rfl⟩
      have heq := fun w => ev_eql HSr.out HSz.out w
      rw [← Hq.out] at heq
      have hgd := ev_guard
      obtain rfl : v = q := by rw [HV5.out, hOK, Hq.out]; rfl
      go_wp2_with (first
        | (with_reducible show wpList _ _ _ (Oper.mk _ (Op.load 52 _) _ _ _ _ :: _) _ _; refine Hid.out ?_))
      refine Lib.hid ?_
      refine wpList_load_yes rfl _ _ rfl g 0 rfl _ _ HWX.out.range Try.underlying52 rfl (HSp.out.trans rfl) ?_
      go_simp
      refine wpList_load_yes rfl _ _ rfl N 0 rfl _ _ (whole_belowM HA.out HBX.out).range Try.underlying52 rfl (HSp.out.trans rfl) ?_
      go_simp
      go_wp2_with fail
      go_ret
      exact ⟨rfl, below_step HB.out HBX.out⟩
  · have HWX : Hid (Whole U g 52 (evC R).toArray) := Lib.hid (by rw [HRe.out]; exact HWU.out)
    have HBX := HBU
    obtain ⟨ok, hok⟩ : ∃ ok, ok = true := ⟨_, rfl⟩
    have hOK : OK = ok := by rw [HOK.out, hok]; rfl
    subst hok
    obtain ⟨q, Hq⟩ : ∃ q, Hid (q = evEq R E) := ⟨_, Lib.hid rfl⟩
    have heq := fun w => ev_eql HSr.out HSz.out w
    rw [← Hq.out] at heq
    have hgd := ev_guard
    obtain rfl : v = q := by rw [HV5.out, hOK, Hq.out]; rfl
    go_wp2_with (first
      | (with_reducible show wpList _ _ _ (Oper.mk _ (Op.load 52 _) _ _ _ _ :: _) _ _; refine Hid.out ?_))
    refine Lib.hid ?_
    refine wpList_load_yes rfl _ _ rfl g 0 rfl _ _ HWX.out.range Try.underlying52 rfl (HSp.out.trans rfl) ?_
    go_simp
    refine wpList_load_yes rfl _ _ rfl N 0 rfl _ _ (whole_belowM HA.out HBX.out).range Try.underlying52 rfl (HSp.out.trans rfl) ?_
    go_simp
    go_wp2_with fail
    go_ret
    exact ⟨rfl, below_step HB.out HBX.out⟩
  · have hOK : OK = (isUse k0 k1 && (isUse c0 c1 && isUse e0 e1)) := by rw [HOK.out]; rfl
    have HUs := Lib.hid (fun w => refUse_any k0 k1 c0 c1 e0 e1 w)
    obtain ⟨ok, Hok⟩ : ∃ b, Hid (b = (isUse k0 k1 && (isUse c0 c1 && isUse e0 e1))) := ⟨_, Lib.hid rfl⟩
    rw [← Hok.out] at hOK HUs
    have HRg : Hid (∀ w, Below V.heap.size V w → w.rangeAt N 8 [.int .i64 k0, .int .i64 k1, .int .i64 c0, .int .i64 c1, .int .i64 e0, .int .i64 e1]) := Lib.hid (fun w hw j u hu => HC.out w hw (8 + j) u (by rw [← List.getElem?_drop]; exact hu))
    have HUz := Lib.hid use_size
    go_upto_region 14 with fail
    go_wp2_with (first
      | (with_reducible show wpList _ _ _ (Oper.mk _ (Op.load 50 _) _ _ _ _ :: _) _ _; refine wpList_load_mid rfl _ _ rfl N 8 rfl _ _ (HRg.out U HBU.out) Try.underlying50 rfl (HUz.out.trans rfl) ?_)
      | (with_reducible show wpList _ _ _ (Oper.mk _ (Op.store 50 _ _) _ _ _ _ :: _) _ _; refine Hid.out ?_))
    refine Lib.hid ?_
    refine wpList_store_useG rfl _ _ rfl g ⟨4, day, part, emp, emp, emp, emp, emp, 0, 0, 0, 0, 0, 0⟩ k0 k1 c0 c1 e0 e1 rfl rfl HWU.out ?_
    intro X hwX hgX
    have HWX0 : Hid (Whole X g 52 (evC R).toArray) := Lib.hid (by rw [HRe.out]; exact hwX)
    have HBX0 : Hid (Below V.heap.size V X) := Lib.hid (HBU.out.grown hgX HBU.out.size (fun y e => by cases e; rw [Hg.out]; exact Nat.le_refl _))
    clear hwX hgX n0
    go_simp
    go_wp2_with (first
      | (with_reducible show wpList _ _ _ (Oper.mk _ (Op.load 50 _) _ _ _ _ :: _) _ _; refine wpList_load_mid rfl _ _ rfl N 8 rfl _ _ (HRg.out X HBX0.out) Try.underlying50 rfl (HUz.out.trans rfl) ?_))
    refine (HUs.out X).mono ?_
    rintro e w1 ⟨rfl, hb⟩
    have HWX := Lib.hid (whole_belowM HWX0.out hb)
    have HBX := Lib.hid (below_step HBX0.out hb)
    clear hb
    cases ok with
    | false =>
      obtain rfl : v = false := by rw [HV5.out, hOK]; rfl
      go_wp2_with fail
      go_ret
      exact ⟨rfl, below_step HB.out HBX.out⟩
    | true =>
      obtain ⟨q, Hq⟩ : ∃ q, Hid (q = evEq R E) := ⟨_, Lib.hid rfl⟩
      have heq := fun w => ev_eql HSr.out HSz.out w
      rw [← Hq.out] at heq
      have hgd := ev_guard
      obtain rfl : v = q := by rw [HV5.out, hOK, Hq.out]; rfl
      go_wp2_with (first
        | (with_reducible show wpList _ _ _ (Oper.mk _ (Op.load 52 _) _ _ _ _ :: _) _ _; refine Hid.out ?_))
      refine Lib.hid ?_
      refine wpList_load_yes rfl _ _ rfl g 0 rfl _ _ HWX.out.range Try.underlying52 rfl (HSp.out.trans rfl) ?_
      go_simp
      refine wpList_load_yes rfl _ _ rfl N 0 rfl _ _ (whole_belowM HA.out HBX.out).range Try.underlying52 rfl (HSp.out.trans rfl) ?_
      go_simp
      go_wp2_with fail
      go_ret
      exact ⟨rfl, below_step HB.out HBX.out⟩
  · have HWX : Hid (Whole U g 52 (evC R).toArray) := Lib.hid (by rw [HRe.out]; exact HWU.out)
    have HBX := HBU
    obtain ⟨ok, hok⟩ : ∃ ok, ok = true := ⟨_, rfl⟩
    have hOK : OK = ok := by rw [HOK.out, hok]; rfl
    subst hok
    obtain ⟨q, Hq⟩ : ∃ q, Hid (q = evEq R E) := ⟨_, Lib.hid rfl⟩
    have heq := fun w => ev_eql HSr.out HSz.out w
    rw [← Hq.out] at heq
    have hgd := ev_guard
    obtain rfl : v = q := by rw [HV5.out, hOK, Hq.out]; rfl
    go_wp2_with (first
      | (with_reducible show wpList _ _ _ (Oper.mk _ (Op.load 52 _) _ _ _ _ :: _) _ _; refine Hid.out ?_))
    refine Lib.hid ?_
    refine wpList_load_yes rfl _ _ rfl g 0 rfl _ _ HWX.out.range Try.underlying52 rfl (HSp.out.trans rfl) ?_
    go_simp
    refine wpList_load_yes rfl _ _ rfl N 0 rfl _ _ (whole_belowM HA.out HBX.out).range Try.underlying52 rfl (HSp.out.trans rfl) ?_
    go_simp
    go_wp2_with fail
    go_ret
    exact ⟨rfl, below_step HB.out HBX.out⟩
  · have hOK : OK = (nm key && (!value.toList.isEmpty && decide ((value.size : Int) ≤ 200))) := by rw [HOK.out]; rfl
    have n6 : U.cell? ⟨N, 6, none⟩ = some (.string key) := HC.out U HBU.out 6 _ rfl
    have n7 : U.cell? ⟨N, 7, none⟩ = some (.string value) := HC.out U HBU.out 7 _ rfl
    have u6 : U.cell? ⟨g, 6, none⟩ = some (.string ⟨#[]⟩) := HWU.out.cell 6
    have z6 : U.frozen? ⟨g, 6, none⟩ = false := HWU.out.frozen 6
    have u7 : U.cell? ⟨g, 7, none⟩ = some (.string ⟨#[]⟩) := HWU.out.cell 7
    have z7 : U.frozen? ⟨g, 7, none⟩ = false := HWU.out.frozen 7
    have hNg : ¬ g = N := by have := HA.out.lt; have := Hg.out; omega
    have hgN : ¬ N = g := by have := HA.out.lt; have := Hg.out; omega
    obtain ⟨X, HX⟩ : ∃ w, Hid (w = (U.setCell ⟨g, 6, none⟩ (.string key)).setCell ⟨g, 7, none⟩ (.string value)) := ⟨_, Lib.hid rfl⟩
    have HWX : Hid (Whole X g 52 (evC R).toArray) := Lib.hid (by rw [HX.out, HRe.out]; exact whole_setM (whole_setM HWU.out 6 _ rfl) 7 _ rfl)
    have HBX : Hid (Below V.heap.size V X) := Lib.hid (by rw [HX.out]; exact HSet.out _ _ _ (HSet.out _ _ _ HBU.out))
    obtain ⟨o1, Ho1⟩ : ∃ b, Hid (b = nm key) := ⟨_, Lib.hid rfl⟩
    obtain ⟨o2, eo2⟩ : ∃ b, decide ((1 : Int) ≤ value.size) = b := ⟨_, rfl⟩
    obtain ⟨o3, eo3⟩ : ∃ b, decide ((value.size : Int) ≤ 200) = b := ⟨_, rfl⟩
    have he : (!value.toList.isEmpty) = o2 := by
      rw [← eo2, ByteArray.toList_eq]
      have hz : value.size = value.data.toList.length := rfl
      cases hl : value.data.toList with
      | nil => rw [hl] at hz; rw [decide_eq_false (by have h0 : value.size = 0 := hz; omega)]; rfl
      | cons a b => rw [hl] at hz; rw [decide_eq_true (by have h0 : value.size = b.length + 1 := hz; omega)]; rfl
    rw [he, eo3, ← Ho1.out] at hOK
    clear he
    have q := HN4.out X
    rw [show Lex.nameB key.data.toList = o1 from Ho1.out.symm] at q
    go_upto_region 19 with fail
    rw [← HX.out]
    clear n0 n6 n7 u6 z6 u7 z7
    have n6 : X.cell? ⟨N, 6, none⟩ = some (.string key) := HC.out X HBX.out 6 _ rfl
    have n7 : X.cell? ⟨N, 7, none⟩ = some (.string value) := HC.out X HBX.out 7 _ rfl
    go_wp2_with fail
    refine q.mono ?_
    rintro e w' ⟨rfl, rfl⟩
    clear q
    cases o1 with
    | false =>
      obtain rfl : v = false := by rw [HV5.out, hOK]; rfl
      go_wp2_with fail
      go_ret
      exact ⟨rfl, below_step HB.out HBX.out⟩
    | true =>
    cases o2 with
    | false =>
      obtain rfl : v = false := by rw [HV5.out, hOK]; rfl
      go_wp2_with fail
      go_ret
      exact ⟨rfl, below_step HB.out HBX.out⟩
    | true =>
    cases o3 with
    | false =>
      obtain rfl : v = false := by rw [HV5.out, hOK]; rfl
      go_wp2_with fail
      go_ret
      exact ⟨rfl, below_step HB.out HBX.out⟩
    | true =>
    obtain ⟨ok, hok⟩ : ∃ ok, ok = true := ⟨_, rfl⟩
    have hOK : OK = ok := by rw [hOK, hok]; rfl
    subst hok
    obtain ⟨q, Hq⟩ : ∃ q, Hid (q = evEq R E) := ⟨_, Lib.hid rfl⟩
    have heq := fun w => ev_eql HSr.out HSz.out w
    rw [← Hq.out] at heq
    have hgd := ev_guard
    obtain rfl : v = q := by rw [HV5.out, hOK, Hq.out]; rfl
    go_wp2_with (first
      | (with_reducible show wpList _ _ _ (Oper.mk _ (Op.load 52 _) _ _ _ _ :: _) _ _; refine Hid.out ?_))
    refine Lib.hid ?_
    refine wpList_load_yes rfl _ _ rfl g 0 rfl _ _ HWX.out.range Try.underlying52 rfl (HSp.out.trans rfl) ?_
    go_simp
    refine wpList_load_yes rfl _ _ rfl N 0 rfl _ _ (whole_belowM HA.out HBX.out).range Try.underlying52 rfl (HSp.out.trans rfl) ?_
    go_simp
    go_wp2_with fail
    go_ret
    exact ⟨rfl, below_step HB.out HBX.out⟩
  · have HWX : Hid (Whole U g 52 (evC R).toArray) := Lib.hid (by rw [HRe.out]; exact HWU.out)
    have HBX := HBU
    obtain ⟨ok, hok⟩ : ∃ ok, ok = true := ⟨_, rfl⟩
    have hOK : OK = ok := by rw [HOK.out, hok]; rfl
    subst hok
    obtain ⟨q, Hq⟩ : ∃ q, Hid (q = evEq R E) := ⟨_, Lib.hid rfl⟩
    have heq := fun w => ev_eql HSr.out HSz.out w
    rw [← Hq.out] at heq
    have hgd := ev_guard
    obtain rfl : v = q := by rw [HV5.out, hOK, Hq.out]; rfl
    go_wp2_with (first
      | (with_reducible show wpList _ _ _ (Oper.mk _ (Op.load 52 _) _ _ _ _ :: _) _ _; refine Hid.out ?_))
    refine Lib.hid ?_
    refine wpList_load_yes rfl _ _ rfl g 0 rfl _ _ HWX.out.range Try.underlying52 rfl (HSp.out.trans rfl) ?_
    go_simp
    refine wpList_load_yes rfl _ _ rfl N 0 rfl _ _ (whole_belowM HA.out HBX.out).range Try.underlying52 rfl (HSp.out.trans rfl) ?_
    go_simp
    go_wp2_with fail
    go_ret
    exact ⟨rfl, below_step HB.out HBX.out⟩

theorem srt_pw (ss : List (List UInt8)) : (srt ss).Pairwise (fun a b => decide (a ≤ b) = true) := by
  unfold srt
  exact List.pairwise_mergeSort (le := fun (a b : List UInt8) => decide (a ≤ b)) (fun a b c h1 h2 => decide_eq_true (List.le_trans (of_decide_eq_true h1) (of_decide_eq_true h2))) (fun a b => by
    rcases List.le_total a b with h | h
    · simp [h]
    · simp [h]) _
theorem srt_two (x y : List UInt8) : srt [x, y] = if x ≤ y then [x, y] else [y, x] := by
  by_cases h : x ≤ y
  · rw [if_pos h]
    exact List.mergeSort_of_pairwise (by simp [h])
  · rw [if_neg h]
    have h2 : y ≤ x := (List.le_total x y).resolve_left h
    have hp : (srt [x, y]).Perm [y, x] := (List.mergeSort_perm _ _).trans (List.Perm.swap _ _ _)
    exact hp.eq_of_pairwise (le := fun (a b : List UInt8) => decide (a ≤ b) = true) (fun a b _ _ h1 h2 => List.le_antisymm (of_decide_eq_true h1) (of_decide_eq_true h2)) (srt_pw _) (by simp [h2])
end Go.Proofs.Ytolnpimnoajcaaa

/- The reference's event: Names. -/
namespace Go.Proofs.Ytolnpimnoajcaaa
open Go.RowKit Go.Sort
open Evt

theorem names_fit2 (part into : ByteArray) : srt [bts part, bts into] = [bts (Lib.minS part into), bts (Lib.maxS part into)] := by
  rw [srt_two]
  unfold Lib.minS Lib.maxS bts
  by_cases h : part.data.toList < into.data.toList
  · rw [if_pos (Or.inl h), if_pos h, if_pos (List.le_of_lt h)]
  · by_cases he : part.data.toList = into.data.toList
    · rw [if_pos (Or.inr he), if_neg h, he, if_pos (List.le_refl _)]
    · have hlt : into.data.toList < part.data.toList := by
        rcases List.le_total part.data.toList into.data.toList with h1 | h1
        · rcases List.le_iff_lt_or_eq.1 h1 with h2 | h2
          · exact absurd h2 h
          · exact absurd h2 he
        · rcases List.le_iff_lt_or_eq.1 h1 with h2 | h2
          · exact h2
          · exact absurd h2.symm he
      rw [if_neg (List.not_le.2 hlt), if_neg (fun h2 : part.data.toList < into.data.toList ∨ part.data.toList = into.data.toList => h2.elim h he), if_neg h]
theorem isS_whole {w : World} {b c : Nat} {l : List ByteArray} (h : Whole w b 9 (l.map Value.string).toArray) : IsS w (.slice (some ⟨b, 0, none⟩) l.length c) (l.map bts) :=
  ⟨_, c, by rw [List.length_map], fun j hj => ⟨b, rfl, h.lt, by
    have hj' : j < l.length := by rw [List.length_map] at hj; exact hj
    rw [h.cell]
    simp [hj', bts]⟩⟩
set_option maxRecDepth 100000 in
set_option maxHeartbeats 4000000 in
theorem refEvNames_any (x : Ev) (hz : Sz x) (hs : Shrt x) (W : World) :
    Calls Try.prog 41 #[.agg (evC x).toArray] W fun e w' => ∃ v, e = .returned v ∧ IsS w' v (namesE x) ∧ Below W.heap.size W w' := by
  obtain ⟨NE, HNE⟩ : ∃ y, Hid (y = namesE x) := ⟨_, Lib.hid rfl⟩
  rw [← HNE.out]
  obtain ⟨N, HN⟩ : ∃ N, Hid (N = W.heap.size) := ⟨_, Lib.hid rfl⟩
  obtain ⟨V, HV⟩ : ∃ w, Hid (w = W.alloc (.cells (evC x).toArray 52)) := ⟨_, Lib.hid rfl⟩
  have HB : Hid (Below W.heap.size W V) := Lib.hid (by rw [HV.out]; exact (Below.refl _ _).alloc (Nat.le_refl _) _)
  have HA : Hid (Whole V N 52 (evC x).toArray) := Lib.hid (by rw [HV.out, HN.out]; exact Whole.new _ _ _)
  have HVd := Lib.hid (refValid_any x hz hs V)
  have HSp := Lib.hid ev_size
  obtain ⟨v, Hv⟩ : ∃ v, Hid (v = Evt.valid x) := ⟨_, Lib.hid rfl⟩
  rw [← Hv.out] at HVd
  have hmn : ∀ (w : World) (ts : Array TypeId) (t : TypeId) (x y : ByteArray), (Builtin.min_ ts t #[.string x, .string y]).run Try.prog w = .ok (.string (Lib.minS x y)) w := Lib.run_min_strs
  have hmx : ∀ (w : World) (ts : Array TypeId) (t : TypeId) (x y : ByteArray), (Builtin.max_ ts t #[.string x, .string y]).run Try.prog w = .ok (.string (Lib.maxS x y)) w := Lib.run_max_strs
  have HNv : Hid (v = true → NE = if x.op = 2 then [bts (Lib.minS x.part x.into), bts (Lib.maxS x.part x.into)] else [bts x.part]) := Lib.hid (fun h => by
    rw [HNE.out]
    unfold namesE
    rw [if_pos (by rw [← Hv.out]; exact h)]
    split
    · exact names_fit2 _ _
    · rfl)
  have HNf : Hid (v = false → NE = []) := Lib.hid (fun h => by
    rw [HNE.out]
    unfold namesE
    rw [if_neg (by rw [← Hv.out, h]; simp)])
  obtain ⟨op, day, part, kind, into, slot, key, value, k0, k1, c0, c1, e0, e1⟩ := x
  dsimp only at HNv
  have HV2 := HV
  unfold evC at HV2 ⊢
  dsimp only at HV2 ⊢
  clear hz hs Hv HNE
  go_enter Try.func41, Try.ntmps41
  go_upto_region 1 with fail
  rw [← HV2.out, ← HN.out]
  go_wp2_with (first
    | (with_reducible show wpList _ _ _ (Oper.mk _ (Op.load 52 _) _ _ _ _ :: _) _ _; refine wpList_load_mid rfl _ _ rfl N 0 rfl _ _ HA.out.range Try.underlying52 rfl (HSp.out.trans rfl) ?_))
  refine HVd.out.mono ?_
  rintro r w1 ⟨rfl, hb⟩
  have HB1 := Lib.hid (below_step HB.out hb)
  have HA1 := Lib.hid (whole_belowM HA.out hb)
  clear hb
  cases v with
  | false =>
    obtain rfl := HNf.out rfl
    go_wp2_with fail
    go_ret
    exact ⟨_, rfl, IsS.owns (OwnS.nil 0 _), HB1.out⟩
  | true =>
  have hNE := HNv.out rfl
  have n0 : w1.cell? ⟨N, 0, none⟩ = some (.int .i64 op) := HA1.out.cell 0
  have n2 : w1.cell? ⟨N, 2, none⟩ = some (.string part) := HA1.out.cell 2
  have n4 : w1.cell? ⟨N, 4, none⟩ = some (.string into) := HA1.out.cell 4
  by_cases ho : op = 2
  · subst ho
    rw [if_pos rfl] at hNE
    subst hNE
    obtain ⟨a, Ha⟩ : ∃ a, Hid (a = Lib.minS part into) := ⟨_, Lib.hid rfl⟩
    obtain ⟨b, Hb⟩ : ∃ a, Hid (a = Lib.maxS part into) := ⟨_, Lib.hid rfl⟩
    obtain ⟨Y, HY⟩ : ∃ w, Hid (w = w1.alloc (.cells #[.string (Lib.minS part into), .string (Lib.maxS part into)] 9)) := ⟨_, Lib.hid rfl⟩
    have HI : Hid (IsS Y (.slice (some ⟨w1.heap.size, 0, none⟩) 2 2) [bts (Lib.minS part into), bts (Lib.maxS part into)]) := Lib.hid (by
      rw [HY.out]; exact isS_whole (l := [Lib.minS part into, Lib.maxS part into]) (Whole.new _ _ _))
    have HBY : Hid (Below W.heap.size W Y) := Lib.hid (by rw [HY.out]; exact below_alloc HB1.out _)
    go_wp2_with fail
    rw [← HY.out]
    go_ret
    exact ⟨_, rfl, HI.out, HBY.out⟩
  · rw [if_neg ho] at hNE
    subst hNE
    have ho2 : (op == 2) = false := by simp; exact ho
    obtain ⟨Y, HY⟩ : ∃ w, Hid (w = w1.alloc (.cells #[.string part] 9)) := ⟨_, Lib.hid rfl⟩
    have HI : Hid (IsS Y (.slice (some ⟨w1.heap.size, 0, none⟩) 1 1) [bts part]) := Lib.hid (by
      rw [HY.out]; exact isS_whole (l := [part]) (Whole.new _ _ _))
    have HBY : Hid (Below W.heap.size W Y) := Lib.hid (by rw [HY.out]; exact below_alloc HB1.out _)
    go_wp2_with fail
    rw [← HY.out]
    go_ret
    exact ⟨_, rfl, HI.out, HBY.out⟩
end Go.Proofs.Ytolnpimnoajcaaa
