/- EventFields. -/
import Derived.Test.YtbnofoncapaabaaGreatDoorEvtFldR
import Derived.Test.YtbnofoncapaabaaGreatDoorNewMany
import Derived.Test.YtbnofoncapaabaaGreatDoorEvEq
namespace Go.Proofs.YtbnofoncapaabaaGreatDoor
open Go.RowKit
open Evt

def fl15V (_N0 : Nat) (x : Ev) : Nat → Value → Prop
  | 0, v => v = .agg (evC x).toArray
  | 1, v => v = .agg (evC x).toArray
  | 2, v => v = .agg (evC x).toArray
  | 3, v => v = .agg (evC x).toArray
  | _, _ => True
def fl22aV (N0 _g12 _g15 : Nat) (_xk xu : Ev) (n k0 _xo : Int) (_s : ByteArray) (_b1 b2 : Bool) : Nat → Value → Prop
  | 0, v => v = .bool true
  | 1, v => v = .bool true
  | 2, v => v = .pointer (some ⟨N0, 0, none⟩)
  | 3, v => v = .int .i64 4
  | 4, v => v = .bool false
  | 5, v => v = .bool false
  | 6, v => v = .agg (evC xu).toArray
  | 7, v => v = .bool b2
  | 8, v => v = .int .i64 n
  | 9, v => v = .pointer (some ⟨N0, 8, none⟩)
  | 10, v => v = .pointer (some ⟨N0, 8, none⟩)
  | 11, v => v = .pointer (some ⟨N0, 8, none⟩)
  | 12, v => v = .int .i64 k0
  | 13, v => v = .bool true
  | 14, v => v = .bool true
  | 15, v => v = .int .i64 n
  | 16, v => v = .bool b2
  | 17, v => v = .bool b2
  | 18, v => v = .bool true
  | 19, v => v = .bool true
  | 20, v => v = .bool true
  | 21, v => v = .bool true
  | 22, v => v = .pointer (some ⟨N0, 0, none⟩)
  | 23, v => v = .int .i64 4
  | 24, v => v = .bool true
  | 25, v => v = .bool true
  | 31, v => v = .bool true
  | 32, v => v = .bool true
  | 33, v => v = .bool true
  | _, _ => True
def fl22bV (N0 _g12 _g15 : Nat) (_xk xu : Ev) (n k0 _xo : Int) (_s : ByteArray) (_b1 _b2 : Bool) : Nat → Value → Prop
  | 0, v => v = .bool true
  | 1, v => v = .bool true
  | 2, v => v = .pointer (some ⟨N0, 0, none⟩)
  | 3, v => v = .int .i64 4
  | 4, v => v = .bool false
  | 5, v => v = .bool false
  | 6, v => v = .agg (evC xu).toArray
  | 7, v => v = .bool false
  | 8, v => v = .int .i64 n
  | 9, v => v = .pointer (some ⟨N0, 8, none⟩)
  | 10, v => v = .pointer (some ⟨N0, 8, none⟩)
  | 11, v => v = .pointer (some ⟨N0, 8, none⟩)
  | 12, v => v = .int .i64 k0
  | 13, v => v = .bool false
  | 14, v => v = .bool false
  | 17, v => v = .bool false
  | 18, v => v = .bool true
  | 19, v => v = .bool true
  | 20, v => v = .bool true
  | 21, v => v = .bool true
  | 22, v => v = .pointer (some ⟨N0, 0, none⟩)
  | 23, v => v = .int .i64 4
  | 24, v => v = .bool true
  | 25, v => v = .bool true
  | 31, v => v = .bool true
  | 32, v => v = .bool true
  | 33, v => v = .bool true
  | _, _ => True
def fl22cV (N0 _g12 _g15 : Nat) (xk _xu : Ev) (n _k0 _xo : Int) (s : ByteArray) (b1 b2 : Bool) : Nat → Value → Prop
  | 0, v => v = .bool true
  | 1, v => v = .bool true
  | 2, v => v = .pointer (some ⟨N0, 0, none⟩)
  | 3, v => v = .int .i64 1
  | 4, v => v = .bool true
  | 5, v => v = .bool true
  | 15, v => v = .int .i64 n
  | 16, v => v = .bool b2
  | 19, v => v = .bool true
  | 20, v => v = .bool true
  | 21, v => v = .bool true
  | 22, v => v = .pointer (some ⟨N0, 0, none⟩)
  | 23, v => v = .int .i64 1
  | 24, v => v = .bool false
  | 25, v => v = .bool false
  | 26, v => v = .agg (evC xk).toArray
  | 27, v => v = .bool b1
  | 28, v => v = .string s
  | 29, v => v = .bool b1
  | 30, v => v = .bool true
  | 31, v => v = .bool true
  | 32, v => v = .bool true
  | 33, v => v = .bool true
  | _, _ => True
def fl22dV (N0 _g12 _g15 : Nat) (_xk _xu : Ev) (n _k0 xo : Int) (_s : ByteArray) (_b1 b2 : Bool) : Nat → Value → Prop
  | 0, v => v = .bool true
  | 1, v => v = .bool true
  | 2, v => v = .pointer (some ⟨N0, 0, none⟩)
  | 3, v => v = .int .i64 xo
  | 4, v => v = .bool true
  | 5, v => v = .bool true
  | 15, v => v = .int .i64 n
  | 16, v => v = .bool b2
  | 19, v => v = .bool true
  | 20, v => v = .bool true
  | 21, v => v = .bool true
  | 22, v => v = .pointer (some ⟨N0, 0, none⟩)
  | 23, v => v = .int .i64 xo
  | 24, v => v = .bool true
  | 25, v => v = .bool true
  | 31, v => v = .bool true
  | 32, v => v = .bool true
  | 33, v => v = .bool true
  | _, _ => True
set_option maxRecDepth 100000 in
set_option maxHeartbeats 8000000 in
theorem fields_walk (x : Ev) (hx : Sz x) (n : Int) (hn : I64 n) (s : ByteArray) (hs : s.size ≤ 140737488351232) (sh : Bool) (W : World)
    (hH : ∀ w, Below W.heap.size W w → Calls Tryz.prog 7 #[] w fun e w' => e = .returned (.bool true) ∧ Below w.heap.size w w')
    (hS : ∀ w, Calls Tryz.prog 8 #[.agg (evC x).toArray] w fun e w' => e = .returned (.bool sh) ∧ Below w.heap.size w w') :
    Calls Tryz.prog 5 #[.agg (evC x).toArray, .int .i64 n, .string s] W fun e w' => e = .returned (.bool true) ∧ Below W.heap.size W w' := by
  obtain ⟨V, HV⟩ : ∃ w, Hid (w = W.alloc (.cells (evC x).toArray 27)) := ⟨_, Lib.hid rfl⟩
  obtain ⟨N0, HN⟩ : ∃ N, Hid (N = W.heap.size) := ⟨_, Lib.hid rfl⟩
  have hB : Below W.heap.size W V := by rw [HV.out]; exact (Below.refl _ _).alloc (Nat.le_refl _) _
  have HW : Hid (Whole V N0 27 (evC x).toArray) := Lib.hid (by rw [HV.out, HN.out]; exact Whole.new _ _ _)
  have HH := Lib.hid (hH V hB)
  have HB := Lib.hid hB
  have HSp := Lib.hid ev_size
  have HSx := Lib.hid hx
  have HIn := Lib.hid hn
  have HSs := Lib.hid hs
  have HSh := Lib.hid hS
  obtain ⟨v, Hv⟩ : ∃ b, Hid (b = Evt.valid x) := ⟨_, Lib.hid rfl⟩
  have HVx := Lib.hid (evValid_any x hx)
  rw [← Hv.out] at HVx
  clear hH hS hB hx hn hs
  go_enter Tryz.func5, Tryz.ntmps5
  go_wp2_with fail
  rw [← HV.out, ← HN.out]
  refine HH.out.mono ?_
  rintro e w1 ⟨rfl, hb⟩
  have HB1 := Lib.hid (below_step HB.out hb)
  have HW1 := Lib.hid (whole_belowM HW.out hb)
  clear hb
  go_wp2_with (first
    | (with_reducible show wpList _ _ _ (Oper.mk _ (Op.load 27 _) _ _ _ _ :: _) _ _; refine wpList_load_mid rfl _ _ rfl N0 0 rfl (evC x) _ (Whole.range HW1.out) Tryz.underlying27 rfl (HSp.out.trans rfl) ?_))
  refine (HSh.out w1).mono ?_
  rintro e w2 ⟨rfl, hb⟩
  have HB2 := Lib.hid (below_step HB1.out hb)
  have HW2 := Lib.hid (whole_belowM HW1.out hb)
  clear hb
  cases sh with
  | false =>
    go_wp2_with fail
    go_ret
    exact ⟨rfl, HB2.out⟩
  | true =>
  obtain ⟨bl, hbl⟩ : ∃ b, decide (300 < (s.size : Int)) = b := ⟨_, rfl⟩
  cases bl with
  | true =>
    go_wp2_with fail
    go_ret
    exact ⟨rfl, HB2.out⟩
  | false =>
  go_wp2_with (first
    | (with_reducible show wpList _ _ _ (Oper.mk _ (Op.load 27 _) _ _ _ _ :: _) _ _; refine Hid.out ?_))
  refine Lib.hid ?_
  refine wpList_load_yes (by kernel_rfl) _ _ rfl N0 0 rfl (evC x) _ (Whole.range HW2.out) Tryz.underlying27 rfl (HSp.out.trans rfl) ?_
  go_wp2_with fail
  refine (HVx.out w2).mono ?_
  rintro e w3 ⟨rfl, hb⟩
  have HB3 := Lib.hid (below_step HB2.out hb)
  have HW3 := Lib.hid (whole_belowM HW2.out hb)
  clear hb hbl
  cases v with
  | false =>
    go_wp2_with fail
    go_ret
    exact ⟨rfl, HB3.out⟩
  | true =>
  have HVt := Lib.hid Hv.out.symm
  have HOne := Lib.hid (evC_one x)
  obtain ⟨g8, Hg8⟩ : ∃ g, Hid (g = w3.heap.size) := ⟨_, Lib.hid rfl⟩
  obtain ⟨U, HU⟩ : ∃ w, Hid (w = w3.alloc (.cells (evC x).toArray 27)) := ⟨_, Lib.hid rfl⟩
  have HWU : Hid (Whole U g8 27 (evC x).toArray) := Lib.hid (by rw [HU.out]; exact Whole.newAt _ _ Hg8.out)
  have HBU : Hid (Below w3.heap.size w3 U) := Lib.hid (by rw [HU.out]; exact (Below.refl _ _).alloc (Nat.le_refl _) _)
  go_wp2_with (first
    | (with_reducible show wpList _ _ _ (Oper.mk _ (Op.load 27 _) _ _ _ _ :: _) _ _; refine wpList_load_mid rfl _ _ rfl N0 0 rfl (evC x) _ (Whole.range HW3.out) Tryz.underlying27 rfl (HSp.out.trans rfl) ?_)
    | (with_reducible show wpList _ _ _ (Oper.mk _ (Op.store 27 _ _) _ _ _ _ :: _) _ _; refine Hid.out ?_))
  refine Lib.hid ?_
  refine wpList_store_new rfl _ _ _ rfl _ (evC x).toArray rfl rfl (HSp.out.trans rfl) rfl HOne.out ?_
  rw [← HU.out, ← Hg8.out]
  obtain ⟨xo, Hxo⟩ : ∃ z, Hid (z = x.op) := ⟨_, Lib.hid rfl⟩
  have k8 : U.cell? ⟨g8, 0, none⟩ = some (.int .i64 xo) := by rw [Hxo.out]; exact HWU.out.cell 0
  have f8 : U.frozen? ⟨g8, 0, none⟩ = false := HWU.out.frozen 0
  obtain ⟨U2, HU2⟩ : ∃ w, Hid (w = U.setCell ⟨g8, 0, none⟩ (.int .i64 n)) := ⟨_, Lib.hid rfl⟩
  go_wp2_with (first
    | (with_reducible show wpList _ _ _ (Oper.mk _ (Op.call _) _ _ _ _ :: _) _ _; refine Hid.out ?_))
  refine Lib.hid ?_
  rw [← HU2.out]
  clear k8 f8
  obtain ⟨xa, Hxa⟩ : ∃ y : Ev, Hid (y = { x with op := n }) := ⟨_, Lib.hid rfl⟩
  obtain ⟨bn, Hbn⟩ : ∃ b, Hid (b = bareB n) := ⟨_, Lib.hid rfl⟩
  obtain ⟨bx, Hbx⟩ : ∃ b, Hid (b = bareB xo) := ⟨_, Lib.hid rfl⟩
  obtain ⟨nu, Hnu⟩ : ∃ b, Hid (b = decide (NoUse x)) := ⟨_, Lib.hid rfl⟩
  obtain ⟨fr, Hfr⟩ : ∃ b, Hid (b = (bn && (bx && nu))) := ⟨_, Lib.hid rfl⟩
  have HSa : Hid (Sz xa) := Lib.hid (by
    obtain ⟨h0, h1, h2, h3, h4, h5, h6, h7, h8, h9, ga, gb, gc, gd⟩ := HSx.out
    rw [Hxa.out]
    exact ⟨HIn.out, h1, h2, h3, h4, h5, h6, h7, h8, h9, ga, gb, gc, gd⟩)
  have HVa := Lib.hid (evValid_any xa HSa.out)
  have HEa : Hid (n ≠ xo → Evt.valid xa = fr) := Lib.hid (fun h => by rw [Hxa.out, Hfr.out, Hbn.out, Hbx.out, Hnu.out, Hxo.out]; exact valid_other HVt.out (by rw [← Hxo.out]; exact h))
  have HWa : Hid (Whole U2 g8 27 (evC xa).toArray) := Lib.hid (by rw [HU2.out, Hxa.out]; exact whole_setM HWU.out 0 _ rfl)
  have HBg : Hid (Below w3.heap.size w3 U2) := Lib.hid (by
    have h1 : U.grownBy U2 (some g8) := by rw [HU2.out]; exact ⟨rfl, rfl, rfl, by simp, fun j _ hj => Below.heap_setCell _ _ _ _ (fun e => hj (by rw [e]))⟩
    exact HBU.out.grown h1 HBU.out.size (fun y e => by cases e; rw [Hg8.out]; exact Nat.le_refl _))
  have HBz := Lib.hid (below_step HB3.out HBg.out)
  have HWx := Lib.hid (whole_belowM HW3.out HBg.out)
  have HBn := Lib.hid (bare_any n)
  have HBx := Lib.hid (bare_any xo)
  rw [← Hbn.out] at HBn
  rw [← Hbx.out] at HBx
  have c0 : U2.cell? ⟨N0, 0, none⟩ = some (.int .i64 xo) := by rw [Hxo.out]; exact HWx.out.cell 0
  have HRu : Hid (U2.rangeAt N0 8 (useC x)) := Lib.hid (fun j v hj => by
    have h := HWx.out.cell (8 + j)
    have hl : j < (useC x).length := (List.getElem?_eq_some_iff.1 hj).1
    have hl6 : j < 6 := hl
    rw [show (evC x).toArray[8 + j]? = some v by
      have hj6 : j = 0 ∨ j = 1 ∨ j = 2 ∨ j = 3 ∨ j = 4 ∨ j = 5 := by omega
      rcases hj6 with rfl | rfl | rfl | rfl | rfl | rfl <;> exact hj] at h
    exact h)
  have HSu : Hid ((Tryz.prog.info? 25).map (·.size) = some 6) := Lib.hid (by kernel_rfl)
  refine wpList_join (fun u w' => u 9 = .bool fr ∧ U2 = w') [35, 36, 37, 38, 39, 40, 41, 42, 43, 44, 45, 46, 9] (by kernel_rfl) ?_ ?_
  · go_wp2_with fail
    refine (HBn.out U2).mono ?_
    rintro e w' ⟨rfl, rfl⟩
    cases bn with
    | false =>
      go_wp2_with fail
      exact join_end rfl ⟨by rw [Hfr.out]; rfl, rfl⟩
    | true =>
    go_wp2_with fail
    refine (HBx.out U2).mono ?_
    rintro e w' ⟨rfl, rfl⟩
    cases bx with
    | false =>
      go_wp2_with fail
      exact join_end rfl ⟨by rw [Hfr.out]; rfl, rfl⟩
    | true =>
    go_wp2_with (first
      | (with_reducible show wpList _ _ _ (Oper.mk _ (Op.load 25 _) _ _ _ _ :: _) _ _; refine Hid.out ?_))
    refine Lib.hid ?_
    refine wpList_load_yes (by kernel_rfl) _ _ rfl N0 8 rfl (useC x) _ HRu.out Tryz.underlying25 rfl (HSu.out.trans rfl) ?_
    go_wp2_with (first
      | (with_reducible show wpList _ _ _ (Oper.mk _ (Op.binOp .eql 25 _ _ _) _ _ _ _ :: _) _ _; refine Hid.out ?_))
    refine Lib.hid ?_
    refine wpList_run_yes (by kernel_rfl) (run_eqUse _ _ _ _ _ _ _ _ _ x HSx.out rfl rfl) ?_
    rw [← Hnu.out]
    go_wp2_with fail
    exact join_end rfl ⟨by rw [Hfr.out]; rfl, rfl⟩
  rintro u w' ⟨e9, rfl⟩
  simp only [refill, e9]
  clear e9
  go_simp
  go_wp2_with (first
    | (with_reducible show wpList _ _ _ (Oper.mk _ (Op.binOp .neq 3 _ _ _) _ _ _ _ :: _) _ _; refine Hid.out ?_))
  refine Lib.hid ?_
  clear c0
  refine wpList_join (fun u w' => u 56 = .bool false ∧ Hid (Below U2.heap.size U2 w')) [50, 51, 52, 53, 54, 55, 56] (by kernel_rfl) ?_ ?_
  · obtain ⟨b0, hb0⟩ : ∃ b, (n != xo) = b := ⟨_, rfl⟩
    cases b0 with
    | false =>
      go_wp2_with fail
      exact join_end rfl ⟨rfl, Lib.hid (Below.refl _ _)⟩
    | true =>
    have hne : n ≠ xo := by simpa using hb0
    have HVa := HVa.out U2
    rw [HEa.out hne] at HVa
    have HVa := Lib.hid HVa
    clear hne
    go_wp2_with (first
      | (with_reducible show wpList _ _ _ (Oper.mk _ (Op.load 27 _) _ _ _ _ :: _) _ _; refine Hid.out ?_))
    refine Lib.hid ?_
    refine wpList_load_yes (by kernel_rfl) _ _ rfl g8 0 rfl (evC xa) _ (Whole.range HWa.out) Tryz.underlying27 rfl (HSp.out.trans rfl) ?_
    go_wp2_with fail
    refine (HVa.out).mono ?_
    rintro e w4 ⟨rfl, hb⟩
    have HB4 := Lib.hid hb
    clear hb
    clear Hfr HEa
    cases fr
    all_goals
      go_wp2_with fail
      exact join_end rfl ⟨rfl, HB4.out⟩
  rintro u w4 ⟨e56, HB4⟩
  simp only [refill, e56]
  clear e56
  go_simp
  have HW4 := Lib.hid (whole_belowM HWx.out HB4.out)
  have HBw4 := Lib.hid (below_step HBz.out HB4.out)
  obtain ⟨g10, Hg10⟩ : ∃ g, Hid (g = w4.heap.size) := ⟨_, Lib.hid rfl⟩
  obtain ⟨U4, HU4⟩ : ∃ w, Hid (w = w4.alloc (.cells (evC x).toArray 27)) := ⟨_, Lib.hid rfl⟩
  have HWU4 : Hid (Whole U4 g10 27 (evC x).toArray) := Lib.hid (by rw [HU4.out]; exact Whole.newAt _ _ Hg10.out)
  have HBU4 : Hid (Below w4.heap.size w4 U4) := Lib.hid (by rw [HU4.out]; exact (Below.refl _ _).alloc (Nat.le_refl _) _)
  go_wp2_with (first
    | (with_reducible show wpList _ _ _ (Oper.mk _ (Op.load 27 _) _ _ _ _ :: _) _ _; refine wpList_load_mid rfl _ _ rfl N0 0 rfl (evC x) _ (Whole.range HW4.out) Tryz.underlying27 rfl (HSp.out.trans rfl) ?_)
    | (with_reducible show wpList _ _ _ (Oper.mk _ (Op.store 27 _ _) _ _ _ _ :: _) _ _; refine Hid.out ?_))
  refine Lib.hid ?_
  refine wpList_store_new rfl _ _ _ rfl _ (evC x).toArray rfl rfl (HSp.out.trans rfl) rfl HOne.out ?_
  rw [← HU4.out, ← Hg10.out]
  obtain ⟨xd, Hxd⟩ : ∃ z, Hid (z = x.day) := ⟨_, Lib.hid rfl⟩
  have k10 : U4.cell? ⟨g10, 1, none⟩ = some (.int .i64 xd) := by rw [Hxd.out]; exact HWU4.out.cell 1
  have f10 : U4.frozen? ⟨g10, 1, none⟩ = false := HWU4.out.frozen 1
  obtain ⟨U5, HU5⟩ : ∃ w, Hid (w = U4.setCell ⟨g10, 1, none⟩ (.int .i64 n)) := ⟨_, Lib.hid rfl⟩
  go_wp2_with (first
    | (with_reducible show wpList _ _ _ (Oper.mk _ (Op.load 27 _) _ _ _ _ :: _) _ _; refine Hid.out ?_))
  refine Lib.hid ?_
  rw [← HU5.out]
  clear k10 f10
  obtain ⟨xl, Hxl⟩ : ∃ y : Ev, Hid (y = { x with day := n }) := ⟨_, Lib.hid rfl⟩
  have HWl5 : Hid (Whole U5 g10 27 (evC xl).toArray) := Lib.hid (by rw [HU5.out, Hxl.out]; exact whole_setM HWU4.out 1 _ rfl)
  have HB5 : Hid (Below w4.heap.size w4 U5) := Lib.hid (by
    have h1 : U4.grownBy U5 (some g10) := by rw [HU5.out]; exact ⟨rfl, rfl, rfl, by simp, fun j _ hj => Below.heap_setCell _ _ _ _ (fun e => hj (by rw [e]))⟩
    exact HBU4.out.grown h1 HBU4.out.size (fun y e => by cases e; rw [Hg10.out]; exact Nat.le_refl _))
  have HW5 := Lib.hid (whole_belowM HW4.out HB5.out)
  have HBw5 := Lib.hid (below_step HBw4.out HB5.out)
  obtain ⟨g11, Hg11⟩ : ∃ g, Hid (g = U5.heap.size) := ⟨_, Lib.hid rfl⟩
  obtain ⟨U6, HU6⟩ : ∃ w, Hid (w = U5.alloc (.cells (evC x).toArray 27)) := ⟨_, Lib.hid rfl⟩
  have HWU6 : Hid (Whole U6 g11 27 (evC x).toArray) := Lib.hid (by rw [HU6.out]; exact Whole.newAt _ _ Hg11.out)
  have HBU6 : Hid (Below U5.heap.size U5 U6) := Lib.hid (by rw [HU6.out]; exact (Below.refl _ _).alloc (Nat.le_refl _) _)
  refine wpList_load_mid rfl _ _ rfl N0 0 rfl (evC x) _ (Whole.range HW5.out) Tryz.underlying27 rfl (HSp.out.trans rfl) ?_
  go_wp2_with (first
    | (with_reducible show wpList _ _ _ (Oper.mk _ (Op.store 27 _ _) _ _ _ _ :: _) _ _; refine Hid.out ?_))
  refine Lib.hid ?_
  refine wpList_store_new rfl _ _ _ rfl _ (evC x).toArray rfl rfl (HSp.out.trans rfl) rfl HOne.out ?_
  rw [← HU6.out, ← Hg11.out]
  obtain ⟨xp, Hxp⟩ : ∃ z, Hid (z = x.part) := ⟨_, Lib.hid rfl⟩
  have k11 : U6.cell? ⟨g11, 2, none⟩ = some (.string xp) := by rw [Hxp.out]; exact HWU6.out.cell 2
  have f11 : U6.frozen? ⟨g11, 2, none⟩ = false := HWU6.out.frozen 2
  obtain ⟨U7, HU7⟩ : ∃ w, Hid (w = U6.setCell ⟨g11, 2, none⟩ (.string emp)) := ⟨_, Lib.hid rfl⟩
  go_wp2_with (first
    | (with_reducible show wpList _ _ _ (Oper.mk _ (Op.load 27 _) _ _ _ _ :: _) _ _; refine Hid.out ?_))
  refine Lib.hid ?_
  rw [show U6.setCell ⟨g11, 2, none⟩ (.string ⟨#[]⟩) = U7 from HU7.out.symm]
  clear k11 f11
  obtain ⟨xn, Hxn⟩ : ∃ y : Ev, Hid (y = { x with part := emp }) := ⟨_, Lib.hid rfl⟩
  have HWn7 : Hid (Whole U7 g11 27 (evC xn).toArray) := Lib.hid (by rw [HU7.out, Hxn.out]; exact whole_setM HWU6.out 2 _ rfl)
  have HB7 : Hid (Below U5.heap.size U5 U7) := Lib.hid (by
    have h1 : U6.grownBy U7 (some g11) := by rw [HU7.out]; exact ⟨rfl, rfl, rfl, by simp, fun j _ hj => Below.heap_setCell _ _ _ _ (fun e => hj (by rw [e]))⟩
    exact HBU6.out.grown h1 HBU6.out.size (fun y e => by cases e; rw [Hg11.out]; exact Nat.le_refl _))
  have HWl7 := Lib.hid (whole_belowM HWl5.out HB7.out)
  have HW7 := Lib.hid (whole_belowM HW5.out HB7.out)
  have HBw7 := Lib.hid (below_step HBw5.out HB7.out)
  have HSl : Hid (Sz xl) := Lib.hid (by
    obtain ⟨h0, h1, h2, h3, h4, h5, h6, h7, h8, h9, ga, gb, gc, gd⟩ := HSx.out
    rw [Hxl.out]
    exact ⟨h0, HIn.out, h2, h3, h4, h5, h6, h7, h8, h9, ga, gb, gc, gd⟩)
  have HSn : Hid (Sz xn) := Lib.hid (by
    obtain ⟨h0, h1, h2, h3, h4, h5, h6, h7, h8, h9, ga, gb, gc, gd⟩ := HSx.out
    rw [Hxn.out]
    exact ⟨h0, h1, st_emp, h3, h4, h5, h6, h7, h8, h9, ga, gb, gc, gd⟩)
  refine wpList_join (fun u w' => u 74 = .bool false ∧ Hid (Below U7.heap.size U7 w')) [62, 63, 64, 65, 66, 67, 68, 69, 70, 71, 72, 73, 74] (by kernel_rfl) ?_ ?_
  · obtain ⟨d0, hd0⟩ : ∃ b, decide (0 ≤ n) = b := ⟨_, rfl⟩
    obtain ⟨d1, hd1⟩ : ∃ b, decide (n ≤ 40000) = b := ⟨_, rfl⟩
    have HVl := evValid_any xl HSl.out U7
    rw [Hxl.out, valid_late HVt.out n, ← Hxl.out, hd0, hd1] at HVl
    have HVl := Lib.hid HVl
    have HVn := Lib.hid (evValid_any xn HSn.out)
    rw [show Evt.valid xn = false by rw [Hxn.out]; exact valid_nobody x] at HVn
    refine wpList_load_mid rfl _ _ rfl g10 0 rfl (evC xl) _ (Whole.range HWl7.out) Tryz.underlying27 rfl (HSp.out.trans rfl) ?_
    go_wp2_with fail
    refine HVl.out.mono ?_
    rintro e w8 ⟨rfl, hb⟩
    have HWn8 := Lib.hid (whole_belowM HWn7.out hb)
    have HB8 := Lib.hid hb
    clear hb
    cases d0
    all_goals cases d1
    all_goals
      go_wp2_with (first
        | (with_reducible show wpList _ _ _ (Oper.mk _ (Op.load 27 _) _ _ _ _ :: _) _ _; refine Hid.out ?_))
      refine Lib.hid ?_
      refine wpList_load_yes (by kernel_rfl) _ _ rfl g11 0 rfl (evC xn) _ (Whole.range HWn8.out) Tryz.underlying27 rfl (HSp.out.trans rfl) ?_
      go_wp2_with fail
      refine (HVn.out w8).mono ?_
      rintro e w9 ⟨rfl, hb⟩
      have HB9 := Lib.hid (below_step HB8.out hb)
      clear hb
      go_wp2_with fail
      exact join_end rfl ⟨rfl, HB9.out⟩
  rintro u w13 ⟨e74, HB13⟩
  simp only [refill, e74]
  clear e74
  go_simp
  have HW13 := Lib.hid (whole_belowM HW7.out HB13.out)
  have HBw13 := Lib.hid (below_step HBw7.out HB13.out)
  have HRx : Hid (∀ w, Below w13.heap.size w13 w → w.rangeAt N0 0 (evC x)) := Lib.hid (fun w hw => (whole_belowM HW13.out hw).range)
  go_wp2_with fail
  apply wp_region_entE 172 (nfK [(4, 8), (5, 9), (6, 10), (7, 11)]) (nfP w13 27 (evC zero).toArray (evC x).toArray [(4, 8), (5, 9), (6, 10), (7, 11)]) (fl15V N0 x) nfP_cg (by kernel_rfl) (by kernel_rfl) rfl nfP_zero
  · intro i o ho e w A' hT hei hwn hsee haway
    have q3 : A'.eval (.tmp 3) = .pointer (some ⟨N0, 0, none⟩) := (haway 3 (by kernel_rfl)).trans rfl
    have HLw : Below w13.heap.size w13 w := nf_below hT
    have hi : i < 12 := by have := (List.getElem?_eq_some_iff.1 ho).1; simpa using this
    have hi : i = 0 ∨ i = 1 ∨ i = 2 ∨ i = 3 ∨ i = 4 ∨ i = 5 ∨ i = 6 ∨ i = 7 ∨ i = 8 ∨ i = 9 ∨ i = 10 ∨ i = 11 := by omega
    rcases hi with rfl | rfl | rfl | rfl | rfl | rfl | rfl | rfl | rfl | rfl | rfl | rfl
    all_goals
      simp only [List.getElem?_cons_succ, List.getElem?_cons_zero, Option.some.injEq] at ho
      subst ho
    · exact wp_of_runL (rLoad _ _ _ _ _ A' w 27 (.tmp 3) N0 0 (evC x) _ (HRx.out w HLw) Tryz.underlying27 rfl (by kernel_rfl) q3) ⟨_, rfl, rfl, LeavesE.plain nfP_below (Below.refl _ _) (by decide)⟩
    · exact wp_of_runL (rLoad _ _ _ _ _ A' w 27 (.tmp 3) N0 0 (evC x) _ (HRx.out w HLw) Tryz.underlying27 rfl (by kernel_rfl) q3) ⟨_, rfl, rfl, LeavesE.plain nfP_below (Below.refl _ _) (by decide)⟩
    · exact wp_of_runL (rLoad _ _ _ _ _ A' w 27 (.tmp 3) N0 0 (evC x) _ (HRx.out w HLw) Tryz.underlying27 rfl (by kernel_rfl) q3) ⟨_, rfl, rfl, LeavesE.plain nfP_below (Below.refl _ _) (by decide)⟩
    · exact wp_of_runL (rLoad _ _ _ _ _ A' w 27 (.tmp 3) N0 0 (evC x) _ (HRx.out w HLw) Tryz.underlying27 rfl (by kernel_rfl) q3) ⟨_, rfl, rfl, LeavesE.plain nfP_below (Below.refl _ _) (by decide)⟩
    · exact wp_of_runL (run_allocF _ _ _ _ _ A' w) ⟨_, rfl, trivial, nf_leaves_alloc (by decide) hT (by kernel_rfl) (ia := 4) (is := 8) (by decide) (hT.none_of hei (by kernel_rfl))⟩
    · exact wp_of_runL (run_allocF _ _ _ _ _ A' w) ⟨_, rfl, trivial, nf_leaves_alloc (by decide) hT (by kernel_rfl) (ia := 5) (is := 9) (by decide) (hT.none_of hei (by kernel_rfl))⟩
    · exact wp_of_runL (run_allocF _ _ _ _ _ A' w) ⟨_, rfl, trivial, nf_leaves_alloc (by decide) hT (by kernel_rfl) (ia := 6) (is := 10) (by decide) (hT.none_of hei (by kernel_rfl))⟩
    · exact wp_of_runL (run_allocF _ _ _ _ _ A' w) ⟨_, rfl, trivial, nf_leaves_alloc (by decide) hT (by kernel_rfl) (ia := 7) (is := 11) (by decide) (hT.none_of hei (by kernel_rfl))⟩
    · have f4 : e 4 = some (A'.eval (.tmp 12)) := (hsee 12 4 (by kernel_rfl) (by kernel_rfl)).1
      have q75 : A'.eval (.tmp 75) = .agg (evC x).toArray := (hsee 75 0 (by kernel_rfl) (by kernel_rfl)).2 (want_free (by kernel_rfl))
      obtain ⟨g, h3, h4, -, h5⟩ := nf_ptr hT (by kernel_rfl) (p := (4, 8)) (by decide) f4
      obtain ⟨w', hr, hz, hg, hw'⟩ := rStore (P := Tryz.prog) _ _ _ _ _ A' w 27 (.tmp 12) (.tmp 75) g _ _ (evC x).toArray h3 q75 (h5 hei) (by kernel_rfl) rfl (by simp [evC, Value.oneCell'])
      exact wp_of_skipL hr ⟨_, rfl, trivial, nf_leaves_store (by decide) hT (by kernel_rfl) (ia := 4) (is := 8) (by decide) (h3 ▸ f4) h4 hg hw'⟩
    · have f5 : e 5 = some (A'.eval (.tmp 13)) := (hsee 13 5 (by kernel_rfl) (by kernel_rfl)).1
      have q76 : A'.eval (.tmp 76) = .agg (evC x).toArray := (hsee 76 1 (by kernel_rfl) (by kernel_rfl)).2 (want_free (by kernel_rfl))
      obtain ⟨g, h3, h4, -, h5⟩ := nf_ptr hT (by kernel_rfl) (p := (5, 9)) (by decide) f5
      obtain ⟨w', hr, hz, hg, hw'⟩ := rStore (P := Tryz.prog) _ _ _ _ _ A' w 27 (.tmp 13) (.tmp 76) g _ _ (evC x).toArray h3 q76 (h5 hei) (by kernel_rfl) rfl (by simp [evC, Value.oneCell'])
      exact wp_of_skipL hr ⟨_, rfl, trivial, nf_leaves_store (by decide) hT (by kernel_rfl) (ia := 5) (is := 9) (by decide) (h3 ▸ f5) h4 hg hw'⟩
    · have f6 : e 6 = some (A'.eval (.tmp 14)) := (hsee 14 6 (by kernel_rfl) (by kernel_rfl)).1
      have q77 : A'.eval (.tmp 77) = .agg (evC x).toArray := (hsee 77 2 (by kernel_rfl) (by kernel_rfl)).2 (want_free (by kernel_rfl))
      obtain ⟨g, h3, h4, -, h5⟩ := nf_ptr hT (by kernel_rfl) (p := (6, 10)) (by decide) f6
      obtain ⟨w', hr, hz, hg, hw'⟩ := rStore (P := Tryz.prog) _ _ _ _ _ A' w 27 (.tmp 14) (.tmp 77) g _ _ (evC x).toArray h3 q77 (h5 hei) (by kernel_rfl) rfl (by simp [evC, Value.oneCell'])
      exact wp_of_skipL hr ⟨_, rfl, trivial, nf_leaves_store (by decide) hT (by kernel_rfl) (ia := 6) (is := 10) (by decide) (h3 ▸ f6) h4 hg hw'⟩
    · have f7 : e 7 = some (A'.eval (.tmp 15)) := (hsee 15 7 (by kernel_rfl) (by kernel_rfl)).1
      have q78 : A'.eval (.tmp 78) = .agg (evC x).toArray := (hsee 78 3 (by kernel_rfl) (by kernel_rfl)).2 (want_free (by kernel_rfl))
      obtain ⟨g, h3, h4, -, h5⟩ := nf_ptr hT (by kernel_rfl) (p := (7, 11)) (by decide) f7
      obtain ⟨w', hr, hz, hg, hw'⟩ := rStore (P := Tryz.prog) _ _ _ _ _ A' w 27 (.tmp 15) (.tmp 78) g _ _ (evC x).toArray h3 q78 (h5 hei) (by kernel_rfl) rfl (by simp [evC, Value.oneCell'])
      exact wp_of_skipL hr ⟨_, rfl, trivial, nf_leaves_store (by decide) hT (by kernel_rfl) (ia := 7) (is := 11) (by decide) (h3 ▸ f7) h4 hg hw'⟩
  intro e wz hT hall
  obtain ⟨v0, e0⟩ := hall 0 (by decide)
  obtain ⟨v1, e1⟩ := hall 1 (by decide)
  obtain ⟨v2, e2⟩ := hall 2 (by decide)
  obtain ⟨v3, e3⟩ := hall 3 (by decide)
  obtain ⟨v4, e4⟩ := hall 4 (by decide)
  obtain ⟨v5, e5⟩ := hall 5 (by decide)
  obtain ⟨v6, e6⟩ := hall 6 (by decide)
  obtain ⟨v7, e7⟩ := hall 7 (by decide)
  obtain ⟨v8, e8⟩ := hall 8 (by decide)
  obtain ⟨v9, e9⟩ := hall 9 (by decide)
  obtain ⟨v10, e10⟩ := hall 10 (by decide)
  obtain ⟨v11, e11⟩ := hall 11 (by decide)
  have hFB := nf_below hT
  have hFS4 := nf_fact hT (f := .sto 4 8) (nf_in (Or.inr (Or.inr (Or.inl ⟨(4, 8), by decide, rfl⟩)))) (by simp [NF.key]) (by simp [NF.key, e4, e8]) (by kernel_rfl)
  simp only [NF.holds, valOf_some e4] at hFS4
  have hFS5 := nf_fact hT (f := .sto 5 9) (nf_in (Or.inr (Or.inr (Or.inl ⟨(5, 9), by decide, rfl⟩)))) (by simp [NF.key]) (by simp [NF.key, e5, e9]) (by kernel_rfl)
  simp only [NF.holds, valOf_some e5] at hFS5
  have hFS6 := nf_fact hT (f := .sto 6 10) (nf_in (Or.inr (Or.inr (Or.inl ⟨(6, 10), by decide, rfl⟩)))) (by simp [NF.key]) (by simp [NF.key, e6, e10]) (by kernel_rfl)
  simp only [NF.holds, valOf_some e6] at hFS6
  have hFS7 := nf_fact hT (f := .sto 7 11) (nf_in (Or.inr (Or.inr (Or.inl ⟨(7, 11), by decide, rfl⟩)))) (by simp [NF.key]) (by simp [NF.key, e7, e11]) (by kernel_rfl)
  simp only [NF.holds, valOf_some e7] at hFS7
  have hFD45 := nf_fact hT (f := .dis 4 5) (nf_in (Or.inr (Or.inr (Or.inr ⟨(4, 8), by decide, (5, 9), by decide, by decide, rfl⟩)))) (by simp [NF.key]) (by simp [NF.key, e4, e5]) (by kernel_rfl)
  simp only [NF.holds, valOf_some e4, valOf_some e5] at hFD45
  have hFD46 := nf_fact hT (f := .dis 4 6) (nf_in (Or.inr (Or.inr (Or.inr ⟨(4, 8), by decide, (6, 10), by decide, by decide, rfl⟩)))) (by simp [NF.key]) (by simp [NF.key, e4, e6]) (by kernel_rfl)
  simp only [NF.holds, valOf_some e4, valOf_some e6] at hFD46
  have hFD47 := nf_fact hT (f := .dis 4 7) (nf_in (Or.inr (Or.inr (Or.inr ⟨(4, 8), by decide, (7, 11), by decide, by decide, rfl⟩)))) (by simp [NF.key]) (by simp [NF.key, e4, e7]) (by kernel_rfl)
  simp only [NF.holds, valOf_some e4, valOf_some e7] at hFD47
  have hFD56 := nf_fact hT (f := .dis 5 6) (nf_in (Or.inr (Or.inr (Or.inr ⟨(5, 9), by decide, (6, 10), by decide, by decide, rfl⟩)))) (by simp [NF.key]) (by simp [NF.key, e5, e6]) (by kernel_rfl)
  simp only [NF.holds, valOf_some e5, valOf_some e6] at hFD56
  have hFD57 := nf_fact hT (f := .dis 5 7) (nf_in (Or.inr (Or.inr (Or.inr ⟨(5, 9), by decide, (7, 11), by decide, by decide, rfl⟩)))) (by simp [NF.key]) (by simp [NF.key, e5, e7]) (by kernel_rfl)
  simp only [NF.holds, valOf_some e5, valOf_some e7] at hFD57
  have hFD67 := nf_fact hT (f := .dis 6 7) (nf_in (Or.inr (Or.inr (Or.inr ⟨(6, 10), by decide, (7, 11), by decide, by decide, rfl⟩)))) (by simp [NF.key]) (by simp [NF.key, e6, e7]) (by kernel_rfl)
  simp only [NF.holds, valOf_some e6, valOf_some e7] at hFD67
  simp only [List.length_cons, List.length_nil, Nat.reduceAdd, fillTo, e0, e1, e2, e3, e4, e5, e6, e7, e8, e9, e10, e11, dstOf]
  clear e0 e1 e2 e3 e4 e5 e6 e7 e8 e9 e10 e11 hT hall
  have HFB := Lib.hid hFB
  have HFS4 := Lib.hid hFS4
  have HFS5 := Lib.hid hFS5
  have HFS6 := Lib.hid hFS6
  have HFS7 := Lib.hid hFS7
  have HFD45 := Lib.hid hFD45
  have HFD46 := Lib.hid hFD46
  have HFD47 := Lib.hid hFD47
  have HFD56 := Lib.hid hFD56
  have HFD57 := Lib.hid hFD57
  have HFD67 := Lib.hid hFD67
  clear hFB hFS4 hFS5 hFS6 hFS7 hFD45 hFD46 hFD47 hFD56 hFD57 hFD67
  go_simp
  obtain ⟨g12, rfl, hg12, hw12⟩ := HFS4.out
  have HG12 := Lib.hid hg12
  have HY12 := Lib.hid hw12
  clear hg12 hw12
  obtain ⟨g13, rfl, hg13, hw13⟩ := HFS5.out
  have HG13 := Lib.hid hg13
  have HY13 := Lib.hid hw13
  clear hg13 hw13
  obtain ⟨g14, rfl, hg14, hw14⟩ := HFS6.out
  have HG14 := Lib.hid hg14
  have HY14 := Lib.hid hw14
  clear hg14 hw14
  obtain ⟨g15, rfl, hg15, hw15⟩ := HFS7.out
  have HG15 := Lib.hid hg15
  have HY15 := Lib.hid hw15
  clear hg15 hw15
  have n12_13 : g12 ≠ g13 := by
    obtain ⟨a, b, h1, h2, h3⟩ := HFD45.out
    cases h1; cases h2
    exact h3
  have n13_12 : g13 ≠ g12 := fun h => n12_13 h.symm
  have n12_14 : g12 ≠ g14 := by
    obtain ⟨a, b, h1, h2, h3⟩ := HFD46.out
    cases h1; cases h2
    exact h3
  have n14_12 : g14 ≠ g12 := fun h => n12_14 h.symm
  have n12_15 : g12 ≠ g15 := by
    obtain ⟨a, b, h1, h2, h3⟩ := HFD47.out
    cases h1; cases h2
    exact h3
  have n15_12 : g15 ≠ g12 := fun h => n12_15 h.symm
  have n13_14 : g13 ≠ g14 := by
    obtain ⟨a, b, h1, h2, h3⟩ := HFD56.out
    cases h1; cases h2
    exact h3
  have n14_13 : g14 ≠ g13 := fun h => n13_14 h.symm
  have n13_15 : g13 ≠ g15 := by
    obtain ⟨a, b, h1, h2, h3⟩ := HFD57.out
    cases h1; cases h2
    exact h3
  have n15_13 : g15 ≠ g13 := fun h => n13_15 h.symm
  have n14_15 : g14 ≠ g15 := by
    obtain ⟨a, b, h1, h2, h3⟩ := HFD67.out
    cases h1; cases h2
    exact h3
  have n15_14 : g15 ≠ g14 := fun h => n14_15 h.symm
  have HBz := Lib.hid (below_step HBw13.out HFB.out)
  obtain ⟨z12, Hz12⟩ : ∃ z, Hid (z = x.kind) := ⟨_, Lib.hid rfl⟩
  have k12 : wz.cell? ⟨g12, 3, none⟩ = some (.string z12) := by rw [Hz12.out]; exact HY12.out.cell 3
  have f12 : wz.frozen? ⟨g12, 3, none⟩ = false := HY12.out.frozen 3
  obtain ⟨z13, Hz13⟩ : ∃ z, Hid (z = x.slot) := ⟨_, Lib.hid rfl⟩
  have k13 : wz.cell? ⟨g13, 5, none⟩ = some (.string z13) := by rw [Hz13.out]; exact HY13.out.cell 5
  have f13 : wz.frozen? ⟨g13, 5, none⟩ = false := HY13.out.frozen 5
  obtain ⟨z14, Hz14⟩ : ∃ z, Hid (z = x.key) := ⟨_, Lib.hid rfl⟩
  have k14 : wz.cell? ⟨g14, 6, none⟩ = some (.string z14) := by rw [Hz14.out]; exact HY14.out.cell 6
  have f14 : wz.frozen? ⟨g14, 6, none⟩ = false := HY14.out.frozen 6
  obtain ⟨z15, Hz15⟩ : ∃ z, Hid (z = x.k1) := ⟨_, Lib.hid rfl⟩
  have k15 : wz.cell? ⟨g15, 9, none⟩ = some (.int .i64 z15) := by rw [Hz15.out]; exact HY15.out.cell 9
  have f15 : wz.frozen? ⟨g15, 9, none⟩ = false := HY15.out.frozen 9
  obtain ⟨wY, HwY⟩ : ∃ w, Hid (w = ((((wz.setCell ⟨g12, 3, none⟩ (.string s)).setCell ⟨g13, 5, none⟩ (.string s)).setCell ⟨g14, 6, none⟩ (.string s)).setCell ⟨g15, 9, none⟩ (.int .i64 n))) := ⟨_, Lib.hid rfl⟩
  obtain ⟨xk, Hxk⟩ : ∃ y : Ev, Hid (y = { x with kind := s }) := ⟨_, Lib.hid rfl⟩
  have HWxk : Hid (Whole wY g12 27 (evC xk).toArray) := Lib.hid (by
    rw [HwY.out, Hxk.out]
    exact (Whole.far (Whole.far (Whole.far (whole_setM HY12.out 3 _ rfl) n12_13 _) n12_14 _) n12_15 _))
  obtain ⟨xs, Hxs⟩ : ∃ y : Ev, Hid (y = { x with slot := s }) := ⟨_, Lib.hid rfl⟩
  have HWxs : Hid (Whole wY g13 27 (evC xs).toArray) := Lib.hid (by
    rw [HwY.out, Hxs.out]
    exact (Whole.far (Whole.far (whole_setM (Whole.far HY13.out n13_12 _) 5 _ rfl) n13_14 _) n13_15 _))
  obtain ⟨xe, Hxe⟩ : ∃ y : Ev, Hid (y = { x with key := s }) := ⟨_, Lib.hid rfl⟩
  have HWxe : Hid (Whole wY g14 27 (evC xe).toArray) := Lib.hid (by
    rw [HwY.out, Hxe.out]
    exact (Whole.far (whole_setM (Whole.far (Whole.far HY14.out n14_12 _) n14_13 _) 6 _ rfl) n14_15 _))
  obtain ⟨xu, Hxu⟩ : ∃ y : Ev, Hid (y = { x with k1 := n }) := ⟨_, Lib.hid rfl⟩
  have HWxu : Hid (Whole wY g15 27 (evC xu).toArray) := Lib.hid (by
    rw [HwY.out, Hxu.out]
    exact (whole_setM (Whole.far (Whole.far (Whole.far HY15.out n15_12 _) n15_13 _) n15_14 _) 9 _ rfl))
  have HBY0 : Hid (Below w13.heap.size w13 wY) := Lib.hid (by
    rw [HwY.out]
    have h0 : wz.grownBy (wz.setCell ⟨g12, 3, none⟩ (.string s)) (some g12) := ⟨rfl, rfl, rfl, by simp, fun j _ hj => Below.heap_setCell _ _ _ _ (fun e => hj (by rw [e]))⟩
    have b0 := Below.grown (HFB.out) h0 (Below.size (HFB.out)) (fun y e => by cases e; exact HG12.out)
    have h1 : (wz.setCell ⟨g12, 3, none⟩ (.string s)).grownBy ((wz.setCell ⟨g12, 3, none⟩ (.string s)).setCell ⟨g13, 5, none⟩ (.string s)) (some g13) := ⟨rfl, rfl, rfl, by simp, fun j _ hj => Below.heap_setCell _ _ _ _ (fun e => hj (by rw [e]))⟩
    have b1 := Below.grown (b0) h1 (Below.size (b0)) (fun y e => by cases e; exact HG13.out)
    have h2 : ((wz.setCell ⟨g12, 3, none⟩ (.string s)).setCell ⟨g13, 5, none⟩ (.string s)).grownBy (((wz.setCell ⟨g12, 3, none⟩ (.string s)).setCell ⟨g13, 5, none⟩ (.string s)).setCell ⟨g14, 6, none⟩ (.string s)) (some g14) := ⟨rfl, rfl, rfl, by simp, fun j _ hj => Below.heap_setCell _ _ _ _ (fun e => hj (by rw [e]))⟩
    have b2 := Below.grown (b1) h2 (Below.size (b1)) (fun y e => by cases e; exact HG14.out)
    have h3 : (((wz.setCell ⟨g12, 3, none⟩ (.string s)).setCell ⟨g13, 5, none⟩ (.string s)).setCell ⟨g14, 6, none⟩ (.string s)).grownBy ((((wz.setCell ⟨g12, 3, none⟩ (.string s)).setCell ⟨g13, 5, none⟩ (.string s)).setCell ⟨g14, 6, none⟩ (.string s)).setCell ⟨g15, 9, none⟩ (.int .i64 n)) (some g15) := ⟨rfl, rfl, rfl, by simp, fun j _ hj => Below.heap_setCell _ _ _ _ (fun e => hj (by rw [e]))⟩
    have b3 := Below.grown (b2) h3 (Below.size (b2)) (fun y e => by cases e; exact HG15.out)
    exact b3)
  have HBY := Lib.hid (below_step HBw13.out HBY0.out)
  have HWxY := Lib.hid (whole_belowM HW13.out HBY0.out)
  go_wp2_with (first
    | (with_reducible show wpList _ _ _ (Oper.mk _ (Op.load 3 _) _ _ _ _ :: _) _ _; refine Hid.out ?_))
  refine Lib.hid ?_
  rw [← HwY.out]
  clear k12 f12 k13 f13 k14 f14 k15 f15 n12_13 n13_12 n12_14 n14_12 n12_15 n15_12 n13_14 n14_13 n13_15 n15_13 n14_15 n15_14 HwY HFS4 HFS5 HFS6 HFS7 HFD45 HFD46 HFD47 HFD56 HFD57 HFD67
  have HCo : Hid (∀ w, Below wY.heap.size wY w → w.cell? ⟨N0, 0, none⟩ = some (.int .i64 xo)) := Lib.hid (fun w hw => by rw [Hxo.out]; exact (whole_belowM HWxY.out hw).cell 0)
  have HSxk : Hid (Sz xk) := Lib.hid (by
    obtain ⟨h0, h1, h2, h3, h4, h5, h6, h7, h8, h9, ga, gb, gc, gd⟩ := HSx.out
    have hss : St s := by have := HSs.out; unfold St; omega
    rw [Hxk.out]
    exact ⟨h0, h1, h2, hss, h4, h5, h6, h7, h8, h9, ga, gb, gc, gd⟩)
  have HVxk := Lib.hid (evValid_any xk HSxk.out)
  have HSxs : Hid (Sz xs) := Lib.hid (by
    obtain ⟨h0, h1, h2, h3, h4, h5, h6, h7, h8, h9, ga, gb, gc, gd⟩ := HSx.out
    have hss : St s := by have := HSs.out; unfold St; omega
    rw [Hxs.out]
    exact ⟨h0, h1, h2, h3, h4, hss, h6, h7, h8, h9, ga, gb, gc, gd⟩)
  have HVxs := Lib.hid (evValid_any xs HSxs.out)
  have HSxe : Hid (Sz xe) := Lib.hid (by
    obtain ⟨h0, h1, h2, h3, h4, h5, h6, h7, h8, h9, ga, gb, gc, gd⟩ := HSx.out
    have hss : St s := by have := HSs.out; unfold St; omega
    rw [Hxe.out]
    exact ⟨h0, h1, h2, h3, h4, h5, hss, h7, h8, h9, ga, gb, gc, gd⟩)
  have HVxe := Lib.hid (evValid_any xe HSxe.out)
  have HSxu : Hid (Sz xu) := Lib.hid (by
    obtain ⟨h0, h1, h2, h3, h4, h5, h6, h7, h8, h9, ga, gb, gc, gd⟩ := HSx.out
    have hss : St s := by have := HSs.out; unfold St; omega
    rw [Hxu.out]
    exact ⟨h0, h1, h2, h3, h4, h5, h6, h7, h8, HIn.out, ga, gb, gc, gd⟩)
  have HVxu := Lib.hid (evValid_any xu HSxu.out)
  refine wpList_join_at 10 (fun u w' => u 99 = .bool false ∧ Hid (Below wY.heap.size wY w')) [90, 91, 92, 93, 94, 95, 96, 97, 98, 99] (by kernel_rfl) ?_ ?_
  · simp only [List.take_succ_cons, List.take_zero]
    have c0 := HCo.out wY (Below.refl _ _)
    obtain ⟨b0, hb0⟩ : ∃ b, (xo != 1) = b := ⟨_, rfl⟩
    cases b0 with
    | false =>
      go_wp2_with fail
      exact join_end rfl ⟨rfl, Lib.hid (Below.refl _ _)⟩
    | true =>
    have hne : x.op ≠ 1 := by rw [← Hxo.out]; simpa using hb0
    by_cases hse : s = ⟨#[]⟩
    · have hs1 : s.toList.isEmpty = true := by rw [hse, ByteArray.toList_eq]; rfl
      clear hne hse
      go_wp2_with fail
      exact join_end rfl ⟨rfl, Lib.hid (Below.refl _ _)⟩
    have HVf := HVxk.out wY
    rw [show Evt.valid xk = false by rw [Hxk.out]; exact valid_kind hne hse] at HVf
    have HVf := Lib.hid HVf
    have hs1 : s.toList.isEmpty = false := by
      rw [Bool.eq_false_iff]
      intro h
      rw [ByteArray.toList_eq] at h
      exact hse (by apply ByteArray.ext; apply Array.ext'; exact List.isEmpty_iff.1 h)
    clear hne hse
    go_wp2_with (first
      | (with_reducible show wpList _ _ _ (Oper.mk _ (Op.load 27 _) _ _ _ _ :: _) _ _; refine Hid.out ?_))
    refine Lib.hid ?_
    refine wpList_load_yes (by kernel_rfl) _ _ rfl g12 0 rfl (evC xk) _ (Whole.range HWxk.out) Tryz.underlying27 rfl (HSp.out.trans rfl) ?_
    go_wp2_with fail
    refine HVf.out.mono ?_
    rintro e w' ⟨rfl, hb⟩
    have HBe := Lib.hid (hb)
    clear hb c0
    go_wp2_with fail
    exact join_end rfl ⟨rfl, HBe.out⟩
  rintro u wA ⟨eu, HwA⟩
  simp only [refill, eu, List.drop_succ_cons, List.drop_zero]
  clear eu
  go_simp
  refine wpList_join_at 13 (fun u w' => u 112 = .bool false ∧ Hid (Below wY.heap.size wY w')) [100, 101, 102, 103, 104, 105, 106, 107, 108, 109, 110, 111, 112] (by kernel_rfl) ?_ ?_
  · simp only [List.take_succ_cons, List.take_zero]
    have c0 := HCo.out wA (HwA.out)
    obtain ⟨b0, hb0⟩ : ∃ b, (xo != 2) = b := ⟨_, rfl⟩
    cases b0 with
    | false =>
      go_wp2_with fail
      exact join_end rfl ⟨rfl, Lib.hid (HwA.out)⟩
    | true =>
    have hne : x.op ≠ 2 := by rw [← Hxo.out]; simpa using hb0
    by_cases hse : s = ⟨#[]⟩
    · have hs1 : s.toList.isEmpty = true := by rw [hse, ByteArray.toList_eq]; rfl
      clear hne hse
      go_wp2_with fail
      exact join_end rfl ⟨rfl, Lib.hid (HwA.out)⟩
    have HVf := HVxs.out wA
    rw [show Evt.valid xs = false by rw [Hxs.out]; exact valid_slot hne hse] at HVf
    have HVf := Lib.hid HVf
    have hs1 : s.toList.isEmpty = false := by
      rw [Bool.eq_false_iff]
      intro h
      rw [ByteArray.toList_eq] at h
      exact hse (by apply ByteArray.ext; apply Array.ext'; exact List.isEmpty_iff.1 h)
    clear hne hse
    go_wp2_with (first
      | (with_reducible show wpList _ _ _ (Oper.mk _ (Op.load 27 _) _ _ _ _ :: _) _ _; refine Hid.out ?_))
    refine Lib.hid ?_
    refine wpList_load_yes (by kernel_rfl) _ _ rfl g13 0 rfl (evC xs) _ (Whole.range (whole_belowM HWxs.out HwA.out)) Tryz.underlying27 rfl (HSp.out.trans rfl) ?_
    go_wp2_with fail
    refine HVf.out.mono ?_
    rintro e w' ⟨rfl, hb⟩
    have HBe := Lib.hid (below_step HwA.out hb)
    clear hb c0
    go_wp2_with fail
    exact join_end rfl ⟨rfl, HBe.out⟩
  rintro u wB ⟨eu, HwB⟩
  simp only [refill, eu, List.drop_succ_cons, List.drop_zero]
  clear eu
  go_simp
  refine wpList_join_at 13 (fun u w' => u 125 = .bool false ∧ Hid (Below wY.heap.size wY w')) [113, 114, 115, 116, 117, 118, 119, 120, 121, 122, 123, 124, 125] (by kernel_rfl) ?_ ?_
  · simp only [List.take_succ_cons, List.take_zero]
    have c0 := HCo.out wB (HwB.out)
    obtain ⟨b0, hb0⟩ : ∃ b, (xo != 6) = b := ⟨_, rfl⟩
    cases b0 with
    | false =>
      go_wp2_with fail
      exact join_end rfl ⟨rfl, Lib.hid (HwB.out)⟩
    | true =>
    have hne : x.op ≠ 6 := by rw [← Hxo.out]; simpa using hb0
    by_cases hse : s = ⟨#[]⟩
    · have hs1 : s.toList.isEmpty = true := by rw [hse, ByteArray.toList_eq]; rfl
      clear hne hse
      go_wp2_with fail
      exact join_end rfl ⟨rfl, Lib.hid (HwB.out)⟩
    have HVf := HVxe.out wB
    rw [show Evt.valid xe = false by rw [Hxe.out]; exact valid_key hne hse] at HVf
    have HVf := Lib.hid HVf
    have hs1 : s.toList.isEmpty = false := by
      rw [Bool.eq_false_iff]
      intro h
      rw [ByteArray.toList_eq] at h
      exact hse (by apply ByteArray.ext; apply Array.ext'; exact List.isEmpty_iff.1 h)
    clear hne hse
    go_wp2_with (first
      | (with_reducible show wpList _ _ _ (Oper.mk _ (Op.load 27 _) _ _ _ _ :: _) _ _; refine Hid.out ?_))
    refine Lib.hid ?_
    refine wpList_load_yes (by kernel_rfl) _ _ rfl g14 0 rfl (evC xe) _ (Whole.range (whole_belowM HWxe.out HwB.out)) Tryz.underlying27 rfl (HSp.out.trans rfl) ?_
    go_wp2_with fail
    refine HVf.out.mono ?_
    rintro e w' ⟨rfl, hb⟩
    have HBe := Lib.hid (below_step HwB.out hb)
    clear hb c0
    go_wp2_with fail
    exact join_end rfl ⟨rfl, HBe.out⟩
  rintro u wC ⟨eu, HwC⟩
  simp only [refill, eu, List.drop_succ_cons, List.drop_zero]
  clear eu
  go_simp
  refine wpList_join (fun u w' => u 138 = .bool false ∧ Hid (Below wY.heap.size wY w')) [126, 127, 128, 129, 130, 131, 132, 133, 134, 135, 136, 137, 138] (by kernel_rfl) ?_ ?_
  · have c0 := HCo.out wC (HwC.out)
    obtain ⟨b0, hb0⟩ : ∃ b, (xo != 4) = b := ⟨_, rfl⟩
    cases b0 with
    | false =>
      go_wp2_with fail
      exact join_end rfl ⟨rfl, Lib.hid (HwC.out)⟩
    | true =>
    have hne : x.op ≠ 4 := by rw [← Hxo.out]; simpa using hb0
    obtain ⟨b1, hb1⟩ : ∃ b, (n != 0) = b := ⟨_, rfl⟩
    cases b1 with
    | false =>
      clear hne
      go_wp2_with fail
      exact join_end rfl ⟨rfl, Lib.hid (HwC.out)⟩
    | true =>
    have HVf := HVxu.out wC
    rw [show Evt.valid xu = false by rw [Hxu.out]; exact valid_use hne (by simpa using hb1)] at HVf
    have HVf := Lib.hid HVf
    clear hne
    go_wp2_with (first
      | (with_reducible show wpList _ _ _ (Oper.mk _ (Op.load 27 _) _ _ _ _ :: _) _ _; refine Hid.out ?_))
    refine Lib.hid ?_
    refine wpList_load_yes (by kernel_rfl) _ _ rfl g15 0 rfl (evC xu) _ (Whole.range (whole_belowM HWxu.out HwC.out)) Tryz.underlying27 rfl (HSp.out.trans rfl) ?_
    go_wp2_with fail
    refine HVf.out.mono ?_
    rintro e w' ⟨rfl, hb⟩
    have HBe := Lib.hid (below_step HwC.out hb)
    clear hb c0
    go_wp2_with fail
    exact join_end rfl ⟨rfl, HBe.out⟩
  rintro u w22 ⟨eu, Hw22⟩
  simp only [refill, eu]
  clear eu
  go_simp
  have HCp : Hid (∀ z, xo = z → ∀ w, Below w22.heap.size w22 w → w.cell? ⟨N0, 0, none⟩ = some (.int .i64 z)) := Lib.hid (fun z hz w hw => by rw [← hz]; exact HCo.out w (below_step Hw22.out hw))
  obtain ⟨k0, Hk0⟩ : ∃ z, Hid (z = x.k0) := ⟨_, Lib.hid rfl⟩
  have HK0c : Hid (∀ w, Below w22.heap.size w22 w → w.cell? ⟨N0, 8, none⟩ = some (.int .i64 k0)) := Lib.hid (fun w hw => by rw [Hk0.out]; exact (whole_belowM HWxY.out (below_step Hw22.out hw)).cell 8)
  have HRk : Hid (∀ w, Below w22.heap.size w22 w → w.rangeAt g12 0 (evC xk)) := Lib.hid (fun w hw => (whole_belowM HWxk.out (below_step Hw22.out hw)).range)
  have HRu : Hid (∀ w, Below w22.heap.size w22 w → w.rangeAt g15 0 (evC xu)) := Lib.hid (fun w hw => (whole_belowM HWxu.out (below_step Hw22.out hw)).range)
  have HB22 := Lib.hid (below_step HBY.out Hw22.out)
  obtain ⟨b2, Hb2⟩ : ∃ b, Hid (b = decide (n ≤ 1000000)) := ⟨_, Lib.hid rfl⟩
  have HG2 := Lib.hid Hb2.out.symm
  go_wp2_with fail
  by_cases h4 : xo = 4
  · have h4x : x.op = 4 := by rw [← Hxo.out]; exact h4
    have HOpc := Lib.hid (HCp.out 4 h4)
    have HN4 : Hid (((4 : Int) != 4) = false) := Lib.hid (by decide)
    have HN1 : Hid (((4 : Int) != 1) = true) := Lib.hid (by decide)
    obtain ⟨b1, Hb1⟩ : ∃ b, Hid (b = decide (k0 ≤ n)) := ⟨_, Lib.hid rfl⟩
    have hv : Evt.valid xu = (b1 && b2) := by rw [Hxu.out, valid_run HVt.out h4x, Hb1.out, Hb2.out, Hk0.out]
    rw [hv] at HVxu
    clear hv h4 h4x
    cases b1 with
    | true =>
      have HVu : Hid (∀ w, Calls Tryz.prog 10 #[.agg (evC xu).toArray] w fun r w' => r = .returned (.bool b2) ∧ Below w.heap.size w w') := HVxu
      have HG1 := Lib.hid Hb1.out.symm
      apply wp_region_entE 172 [([], [])] ((fun _ _ w => Below w22.heap.size w22 w)) (fl22aV N0 g12 g15 xk xu n k0 xo s true b2) (fun _ _ _ _ _ _ _ _ h => h) (by kernel_rfl) (by kernel_rfl) rfl (fun _ _ _ => (Below.refl _ _).drew)
      · intro i o ho e w A' hT hei hwn hsee haway
        have q1 : A'.eval (.tmp 1) = .int .i64 n := (haway 1 (by kernel_rfl)).trans rfl
        have q2 : A'.eval (.tmp 2) = .string s := (haway 2 (by kernel_rfl)).trans rfl
        have q3 : A'.eval (.tmp 3) = .pointer (some ⟨N0, 0, none⟩) := (haway 3 (by kernel_rfl)).trans rfl
        have q7 : A'.eval (.tmp 7) = .bool true := (haway 7 (by kernel_rfl)).trans rfl
        have q12 : A'.eval (.tmp 12) = .pointer (some ⟨g12, 0, none⟩) := (haway 12 (by kernel_rfl)).trans rfl
        have q15 : A'.eval (.tmp 15) = .pointer (some ⟨g15, 0, none⟩) := (haway 15 (by kernel_rfl)).trans rfl
        have hlow : Below w22.heap.size w22 w := hT.fact 0 rfl (by simp) (by simp) rfl
        have hk1 : e 1 ≠ none → e 1 = some (.bool true) := fun h => know_free hT h rfl (fun _ h => h)
        have hk5 : e 5 ≠ none → e 5 = some (.bool false) := fun h => know_dep hT h rfl (hk1 (hT.order 5 1 h (by kernel_rfl))) (fun _ h => h)
        have hk14 : e 14 ≠ none → e 14 = some (.bool true) := fun h => know_dep hT h rfl (hk5 (hT.order 14 5 h (by kernel_rfl))) (fun _ h => h)
        have hk21 : e 21 ≠ none → e 21 = some (.bool true) := fun h => know_free hT h rfl (fun _ h => h)
        have hk25 : e 25 ≠ none → e 25 = some (.bool true) := fun h => know_dep hT h rfl (hk21 (hT.order 25 21 h (by kernel_rfl))) (fun _ h => h)
        have hi : i < 34 := by have := (List.getElem?_eq_some_iff.1 ho).1; simpa using this
        have hi : i = 0 ∨ i = 1 ∨ i = 2 ∨ i = 3 ∨ i = 4 ∨ i = 5 ∨ i = 6 ∨ i = 7 ∨ i = 8 ∨ i = 9 ∨ i = 10 ∨ i = 11 ∨ i = 12 ∨ i = 13 ∨ i = 14 ∨ i = 15 ∨ i = 16 ∨ i = 17 ∨ i = 18 ∨ i = 19 ∨ i = 20 ∨ i = 21 ∨ i = 22 ∨ i = 23 ∨ i = 24 ∨ i = 25 ∨ i = 26 ∨ i = 27 ∨ i = 28 ∨ i = 29 ∨ i = 30 ∨ i = 31 ∨ i = 32 ∨ i = 33 := by omega
        rcases hi with rfl | rfl | rfl | rfl | rfl | rfl | rfl | rfl | rfl | rfl | rfl | rfl | rfl | rfl | rfl | rfl | rfl | rfl | rfl | rfl | rfl | rfl | rfl | rfl | rfl | rfl | rfl | rfl | rfl | rfl | rfl | rfl | rfl | rfl
        all_goals
          simp only [List.getElem?_cons_succ, List.getElem?_cons_zero, Option.some.injEq] at ho
          subst ho
        · exact wp_of_runL (rMove _ _ _ _ _ A' w (.tmp 7) _ q7) ⟨_, rfl, rfl, LeavesE.plain (fun _ _ _ _ h hb => below_step h hb) (Below.refl _ _) (by decide)⟩
        · have q139 : A'.eval (.tmp 139) = .bool true := (hsee 139 0 (by kernel_rfl) (by kernel_rfl)).2 (want_free (by kernel_rfl))
          exact wp_of_runL (rMove _ _ _ _ _ A' w (.tmp 139) _ q139) ⟨_, rfl, rfl, LeavesE.plain (fun _ _ _ _ h hb => below_step h hb) (Below.refl _ _) (by decide)⟩
        · exact wp_of_runL (rField _ _ _ _ _ A' w 27 (.tmp 3) 0 N0 0 0 _ _ Tryz.underlying27 rfl (by kernel_rfl) rfl (by kernel_rfl) q3) ⟨_, rfl, rfl, LeavesE.plain (fun _ _ _ _ h hb => below_step h hb) (Below.refl _ _) (by decide)⟩
        · have q141 : A'.eval (.tmp 141) = .pointer (some ⟨N0, 0, none⟩) := (hsee 141 2 (by kernel_rfl) (by kernel_rfl)).2 (hwn.same (by kernel_rfl))
          exact wp_of_runL (rLoad1 _ _ _ _ _ A' w 3 (.tmp 141) _ _ _ Tryz.underlying3 rfl (HOpc.out w hlow) q141) ⟨_, rfl, rfl, LeavesE.plain (fun _ _ _ _ h hb => below_step h hb) (Below.refl _ _) (by decide)⟩
        · have q142 : A'.eval (.tmp 142) = .int .i64 4 := (hsee 142 3 (by kernel_rfl) (by kernel_rfl)).2 (hwn.same (by kernel_rfl))
          exact wp_of_runL (rNeqInt _ _ _ _ _ A' w _ _ (.tmp 142) _ _ 4 _ HN4.out q142 rfl) ⟨_, rfl, rfl, LeavesE.plain (fun _ _ _ _ h hb => below_step h hb) (Below.refl _ _) (by decide)⟩
        · have q143 : A'.eval (.tmp 143) = .bool false := (hsee 143 4 (by kernel_rfl) (by kernel_rfl)).2 (hwn.same (by kernel_rfl))
          exact wp_of_runL (rMove _ _ _ _ _ A' w (.tmp 143) _ q143) ⟨_, rfl, rfl, LeavesE.plain (fun _ _ _ _ h hb => below_step h hb) (Below.refl _ _) (by decide)⟩
        · exact wp_of_runL (rLoad _ _ _ _ _ A' w 27 (.tmp 15) g15 0 (evC xu) _ (HRu.out w hlow) Tryz.underlying27 rfl (by kernel_rfl) q15) ⟨_, rfl, rfl, LeavesE.plain (fun _ _ _ _ h hb => below_step h hb) (Below.refl _ _) (by decide)⟩
        · have q145 : A'.eval (.tmp 145) = .agg (evC xu).toArray := (hsee 145 6 (by kernel_rfl) (by kernel_rfl)).2 (hwn.same (by kernel_rfl))
          refine wp_of_callL _ _ _ _ _ _ _ 10 _ [.tmp 145] [.agg (evC xu).toArray] (by simp [q145]) (by kernel_rfl) ((HVu.out w).mono ?_)
          rintro e' w2 ⟨rfl, hb2⟩
          exact ⟨_, rfl, _, rfl, rfl, LeavesE.plain (fun _ _ _ _ h hb => below_step h hb) hb2 (by decide)⟩
        · exact wp_of_runL (rMove _ _ _ _ _ A' w (.tmp 1) _ q1) ⟨_, rfl, rfl, LeavesE.plain (fun _ _ _ _ h hb => below_step h hb) (Below.refl _ _) (by decide)⟩
        · exact wp_of_runL (rField _ _ _ _ _ A' w 27 (.tmp 3) 8 N0 0 8 _ _ Tryz.underlying27 rfl (by kernel_rfl) rfl (by kernel_rfl) q3) ⟨_, rfl, rfl, LeavesE.plain (fun _ _ _ _ h hb => below_step h hb) (Below.refl _ _) (by decide)⟩
        · have q148 : A'.eval (.tmp 148) = .pointer (some ⟨N0, 8, none⟩) := (hsee 148 9 (by kernel_rfl) (by kernel_rfl)).2 (hwn.same (by kernel_rfl))
          exact wp_of_runL (rField _ _ _ _ _ A' w 25 (.tmp 148) 0 N0 8 8 _ _ Tryz.underlying25 rfl (by kernel_rfl) rfl (by kernel_rfl) q148) ⟨_, rfl, rfl, LeavesE.plain (fun _ _ _ _ h hb => below_step h hb) (Below.refl _ _) (by decide)⟩
        · have q149 : A'.eval (.tmp 149) = .pointer (some ⟨N0, 8, none⟩) := (hsee 149 10 (by kernel_rfl) (by kernel_rfl)).2 (hwn.same (by kernel_rfl))
          exact wp_of_runL (rField _ _ _ _ _ A' w 23 (.tmp 149) 0 N0 8 8 _ _ Tryz.underlying23 rfl (by kernel_rfl) rfl (by kernel_rfl) q149) ⟨_, rfl, rfl, LeavesE.plain (fun _ _ _ _ h hb => below_step h hb) (Below.refl _ _) (by decide)⟩
        · have q150 : A'.eval (.tmp 150) = .pointer (some ⟨N0, 8, none⟩) := (hsee 150 11 (by kernel_rfl) (by kernel_rfl)).2 (hwn.same (by kernel_rfl))
          exact wp_of_runL (rLoad1 _ _ _ _ _ A' w 3 (.tmp 150) _ _ _ Tryz.underlying3 rfl (HK0c.out w hlow) q150) ⟨_, rfl, rfl, LeavesE.plain (fun _ _ _ _ h hb => below_step h hb) (Below.refl _ _) (by decide)⟩
        · have q147 : A'.eval (.tmp 147) = .int .i64 n := (hsee 147 8 (by kernel_rfl) (by kernel_rfl)).2 (hwn.same (by kernel_rfl))
          have q151 : A'.eval (.tmp 151) = .int .i64 k0 := (hsee 151 12 (by kernel_rfl) (by kernel_rfl)).2 (hwn.same (by kernel_rfl))
          exact wp_of_runL (rGeqInt _ _ _ _ _ A' w _ _ (.tmp 147) (.tmp 151) _ _ _ HG1.out q147 q151) ⟨_, rfl, rfl, LeavesE.plain (fun _ _ _ _ h hb => below_step h hb) (Below.refl _ _) (by decide)⟩
        · have q152 : A'.eval (.tmp 152) = .bool true := (hsee 152 13 (by kernel_rfl) (by kernel_rfl)).2 (hwn.same (by kernel_rfl))
          exact wp_of_runL (rMove _ _ _ _ _ A' w (.tmp 152) _ q152) ⟨_, rfl, rfl, LeavesE.plain (fun _ _ _ _ h hb => below_step h hb) (Below.refl _ _) (by decide)⟩
        · exact wp_of_runL (rMove _ _ _ _ _ A' w (.tmp 1) _ q1) ⟨_, rfl, rfl, LeavesE.plain (fun _ _ _ _ h hb => below_step h hb) (Below.refl _ _) (by decide)⟩
        · have q154 : A'.eval (.tmp 154) = .int .i64 n := (hsee 154 15 (by kernel_rfl) (by kernel_rfl)).2 (hwn.same (by kernel_rfl))
          exact wp_of_runL (rLeqInt _ _ _ _ _ A' w _ _ (.tmp 154) _ _ _ _ HG2.out q154 rfl) ⟨_, rfl, rfl, LeavesE.plain (fun _ _ _ _ h hb => below_step h hb) (Below.refl _ _) (by decide)⟩
        · have q153 : A'.eval (.tmp 153) = .bool true := (hsee 153 14 (by kernel_rfl) (by kernel_rfl)).2 (hwn.same (by kernel_rfl))
          have q155 : A'.eval (.tmp 155) = .bool b2 := (hsee 155 16 (by kernel_rfl) (by kernel_rfl)).2 (fun g b hg => by cases hg; exact hk14 (hT.order 16 14 (by rw [(hsee 155 16 (by kernel_rfl) (by kernel_rfl)).1]; simp) (by kernel_rfl)))
          exact wp_of_runL (rPick _ _ _ _ _ A' w (.tmp 153) (.tmp 155) (.const (Value.bool false)) _ _ q153 (by rw [if_pos rfl]; exact q155)) ⟨_, rfl, rfl, LeavesE.plain (fun _ _ _ _ h hb => below_step h hb) (Below.refl _ _) (by decide)⟩
        · have q146 : A'.eval (.tmp 146) = .bool b2 := (hsee 146 7 (by kernel_rfl) (by kernel_rfl)).2 (hwn.same (by kernel_rfl))
          have q156 : A'.eval (.tmp 156) = .bool b2 := (hsee 156 17 (by kernel_rfl) (by kernel_rfl)).2 (hwn.same (by kernel_rfl))
          exact wp_of_runL (rEqlBoolU _ _ _ _ _ A' w (.tmp 146) (.tmp 156) _ q146 q156) ⟨_, rfl, rfl, LeavesE.plain (fun _ _ _ _ h hb => below_step h hb) (Below.refl _ _) (by decide)⟩
        · have q144 : A'.eval (.tmp 144) = .bool false := (hsee 144 5 (by kernel_rfl) (by kernel_rfl)).2 (hwn.same (by kernel_rfl))
          have q157 : A'.eval (.tmp 157) = .bool true := (hsee 157 18 (by kernel_rfl) (by kernel_rfl)).2 (fun g b hg => by cases hg; exact hk5 (hT.order 18 5 (by rw [(hsee 157 18 (by kernel_rfl) (by kernel_rfl)).1]; simp) (by kernel_rfl)))
          exact wp_of_runL (rPick _ _ _ _ _ A' w (.tmp 144) (.const (Value.bool true)) (.tmp 157) _ _ q144 (by rw [if_neg (by decide)]; exact q157)) ⟨_, rfl, rfl, LeavesE.plain (fun _ _ _ _ h hb => below_step h hb) (Below.refl _ _) (by decide)⟩
        · have q140 : A'.eval (.tmp 140) = .bool true := (hsee 140 1 (by kernel_rfl) (by kernel_rfl)).2 (want_free (by kernel_rfl))
          have q158 : A'.eval (.tmp 158) = .bool true := (hsee 158 19 (by kernel_rfl) (by kernel_rfl)).2 (fun g b hg => by cases hg; exact hk1 (hT.order 19 1 (by rw [(hsee 158 19 (by kernel_rfl) (by kernel_rfl)).1]; simp) (by kernel_rfl)))
          exact wp_of_runL (rPick _ _ _ _ _ A' w (.tmp 140) (.tmp 158) (.const (Value.bool false)) _ _ q140 (by rw [if_pos rfl]; exact q158)) ⟨_, rfl, rfl, LeavesE.plain (fun _ _ _ _ h hb => below_step h hb) (Below.refl _ _) (by decide)⟩
        · have q159 : A'.eval (.tmp 159) = .bool true := (hsee 159 20 (by kernel_rfl) (by kernel_rfl)).2 (want_free (by kernel_rfl))
          exact wp_of_runL (rMove _ _ _ _ _ A' w (.tmp 159) _ q159) ⟨_, rfl, rfl, LeavesE.plain (fun _ _ _ _ h hb => below_step h hb) (Below.refl _ _) (by decide)⟩
        · exact wp_of_runL (rField _ _ _ _ _ A' w 27 (.tmp 3) 0 N0 0 0 _ _ Tryz.underlying27 rfl (by kernel_rfl) rfl (by kernel_rfl) q3) ⟨_, rfl, rfl, LeavesE.plain (fun _ _ _ _ h hb => below_step h hb) (Below.refl _ _) (by decide)⟩
        · have q161 : A'.eval (.tmp 161) = .pointer (some ⟨N0, 0, none⟩) := (hsee 161 22 (by kernel_rfl) (by kernel_rfl)).2 (hwn.same (by kernel_rfl))
          exact wp_of_runL (rLoad1 _ _ _ _ _ A' w 3 (.tmp 161) _ _ _ Tryz.underlying3 rfl (HOpc.out w hlow) q161) ⟨_, rfl, rfl, LeavesE.plain (fun _ _ _ _ h hb => below_step h hb) (Below.refl _ _) (by decide)⟩
        · have q162 : A'.eval (.tmp 162) = .int .i64 4 := (hsee 162 23 (by kernel_rfl) (by kernel_rfl)).2 (hwn.same (by kernel_rfl))
          exact wp_of_runL (rNeqInt _ _ _ _ _ A' w _ _ (.tmp 162) _ _ 1 _ HN1.out q162 rfl) ⟨_, rfl, rfl, LeavesE.plain (fun _ _ _ _ h hb => below_step h hb) (Below.refl _ _) (by decide)⟩
        · have q163 : A'.eval (.tmp 163) = .bool true := (hsee 163 24 (by kernel_rfl) (by kernel_rfl)).2 (hwn.same (by kernel_rfl))
          exact wp_of_runL (rMove _ _ _ _ _ A' w (.tmp 163) _ q163) ⟨_, rfl, rfl, LeavesE.plain (fun _ _ _ _ h hb => below_step h hb) (Below.refl _ _) (by decide)⟩
        · exact absurd ((hk25 (by rw [hwn 25 false rfl]; simp)).symm.trans (hwn 25 false rfl)) (by intro h; cases h)
        · exact absurd ((hk25 (by rw [hwn 25 false rfl]; simp)).symm.trans (hwn 25 false rfl)) (by intro h; cases h)
        · exact absurd ((hk25 (by rw [hwn 25 false rfl]; simp)).symm.trans (hwn 25 false rfl)) (by intro h; cases h)
        · exact absurd ((hk25 (by rw [hwn 25 false rfl]; simp)).symm.trans (hwn 25 false rfl)) (by intro h; cases h)
        · exact absurd ((hk25 (by rw [hwn 25 false rfl]; simp)).symm.trans (hwn 25 false rfl)) (by intro h; cases h)
        · have q164 : A'.eval (.tmp 164) = .bool true := (hsee 164 25 (by kernel_rfl) (by kernel_rfl)).2 (hwn.same (by kernel_rfl))
          exact wp_of_runL (rPick _ _ _ _ _ A' w (.tmp 164) (.const (Value.bool true)) (.tmp 169) _ _ q164 (by rw [if_pos rfl]; exact rfl)) ⟨_, rfl, rfl, LeavesE.plain (fun _ _ _ _ h hb => below_step h hb) (Below.refl _ _) (by decide)⟩
        · have q160 : A'.eval (.tmp 160) = .bool true := (hsee 160 21 (by kernel_rfl) (by kernel_rfl)).2 (want_free (by kernel_rfl))
          have q170 : A'.eval (.tmp 170) = .bool true := (hsee 170 31 (by kernel_rfl) (by kernel_rfl)).2 (fun g b hg => by cases hg; exact hk21 (hT.order 31 21 (by rw [(hsee 170 31 (by kernel_rfl) (by kernel_rfl)).1]; simp) (by kernel_rfl)))
          exact wp_of_runL (rPick _ _ _ _ _ A' w (.tmp 160) (.tmp 170) (.const (Value.bool false)) _ _ q160 (by rw [if_pos rfl]; exact q170)) ⟨_, rfl, rfl, LeavesE.plain (fun _ _ _ _ h hb => below_step h hb) (Below.refl _ _) (by decide)⟩
        · have q171 : A'.eval (.tmp 171) = .bool true := (hsee 171 32 (by kernel_rfl) (by kernel_rfl)).2 (want_free (by kernel_rfl))
          exact wp_of_runL (rAssign _ _ _ _ _ A' w (.tmp 171) _ q171) ⟨_, rfl, rfl, LeavesE.plain (fun _ _ _ _ h hb => below_step h hb) (Below.refl _ _) (by decide)⟩
      intro e wz hT hall
      obtain ⟨v0, e0⟩ := hall 0 (by decide)
      obtain ⟨v1, e1⟩ := hall 1 (by decide)
      obtain ⟨v2, e2⟩ := hall 2 (by decide)
      obtain ⟨v3, e3⟩ := hall 3 (by decide)
      obtain ⟨v4, e4⟩ := hall 4 (by decide)
      obtain ⟨v5, e5⟩ := hall 5 (by decide)
      obtain ⟨v6, e6⟩ := hall 6 (by decide)
      obtain ⟨v7, e7⟩ := hall 7 (by decide)
      obtain ⟨v8, e8⟩ := hall 8 (by decide)
      obtain ⟨v9, e9⟩ := hall 9 (by decide)
      obtain ⟨v10, e10⟩ := hall 10 (by decide)
      obtain ⟨v11, e11⟩ := hall 11 (by decide)
      obtain ⟨v12, e12⟩ := hall 12 (by decide)
      obtain ⟨v13, e13⟩ := hall 13 (by decide)
      obtain ⟨v14, e14⟩ := hall 14 (by decide)
      obtain ⟨v15, e15⟩ := hall 15 (by decide)
      obtain ⟨v16, e16⟩ := hall 16 (by decide)
      obtain ⟨v17, e17⟩ := hall 17 (by decide)
      obtain ⟨v18, e18⟩ := hall 18 (by decide)
      obtain ⟨v19, e19⟩ := hall 19 (by decide)
      obtain ⟨v20, e20⟩ := hall 20 (by decide)
      obtain ⟨v21, e21⟩ := hall 21 (by decide)
      obtain ⟨v22, e22⟩ := hall 22 (by decide)
      obtain ⟨v23, e23⟩ := hall 23 (by decide)
      obtain ⟨v24, e24⟩ := hall 24 (by decide)
      obtain ⟨v25, e25⟩ := hall 25 (by decide)
      obtain ⟨v26, e26⟩ := hall 26 (by decide)
      obtain ⟨v27, e27⟩ := hall 27 (by decide)
      obtain ⟨v28, e28⟩ := hall 28 (by decide)
      obtain ⟨v29, e29⟩ := hall 29 (by decide)
      obtain ⟨v30, e30⟩ := hall 30 (by decide)
      obtain ⟨v31, e31⟩ := hall 31 (by decide)
      obtain ⟨v32, e32⟩ := hall 32 (by decide)
      obtain ⟨v33, e33⟩ := hall 33 (by decide)
      have h33' : v33 = .bool true := hT.pure 33 _ e33 (want_free (by kernel_rfl))
      subst h33'
      have hF0 := hT.fact 0 rfl (by simp) (by simp) (by kernel_rfl)
      try simp only [Nat.reduceAdd] at hF0
      simp only [List.length_cons, List.length_nil, Nat.reduceAdd, fillTo, e0, e1, e2, e3, e4, e5, e6, e7, e8, e9, e10, e11, e12, e13, e14, e15, e16, e17, e18, e19, e20, e21, e22, e23, e24, e25, e26, e27, e28, e29, e30, e31, e32, e33, dstOf]
      clear e0 e1 e2 e3 e4 e5 e6 e7 e8 e9 e10 e11 e12 e13 e14 e15 e16 e17 e18 e19 e20 e21 e22 e23 e24 e25 e26 e27 e28 e29 e30 e31 e32 e33 hT hall
      have HF0 := Lib.hid (show Below w22.heap.size w22 wz from hF0)
      clear hF0
      go_simp
      go_wp2_with fail
      go_ret
      exact ⟨rfl, below_step HB22.out HF0.out⟩
    | false =>
      have HVu : Hid (∀ w, Calls Tryz.prog 10 #[.agg (evC xu).toArray] w fun r w' => r = .returned (.bool false) ∧ Below w.heap.size w w') := HVxu
      have HG1 := Lib.hid Hb1.out.symm
      apply wp_region_entE 172 [([], [])] ((fun _ _ w => Below w22.heap.size w22 w)) (fl22bV N0 g12 g15 xk xu n k0 xo s true b2) (fun _ _ _ _ _ _ _ _ h => h) (by kernel_rfl) (by kernel_rfl) rfl (fun _ _ _ => (Below.refl _ _).drew)
      · intro i o ho e w A' hT hei hwn hsee haway
        have q1 : A'.eval (.tmp 1) = .int .i64 n := (haway 1 (by kernel_rfl)).trans rfl
        have q2 : A'.eval (.tmp 2) = .string s := (haway 2 (by kernel_rfl)).trans rfl
        have q3 : A'.eval (.tmp 3) = .pointer (some ⟨N0, 0, none⟩) := (haway 3 (by kernel_rfl)).trans rfl
        have q7 : A'.eval (.tmp 7) = .bool true := (haway 7 (by kernel_rfl)).trans rfl
        have q12 : A'.eval (.tmp 12) = .pointer (some ⟨g12, 0, none⟩) := (haway 12 (by kernel_rfl)).trans rfl
        have q15 : A'.eval (.tmp 15) = .pointer (some ⟨g15, 0, none⟩) := (haway 15 (by kernel_rfl)).trans rfl
        have hlow : Below w22.heap.size w22 w := hT.fact 0 rfl (by simp) (by simp) rfl
        have hk1 : e 1 ≠ none → e 1 = some (.bool true) := fun h => know_free hT h rfl (fun _ h => h)
        have hk5 : e 5 ≠ none → e 5 = some (.bool false) := fun h => know_dep hT h rfl (hk1 (hT.order 5 1 h (by kernel_rfl))) (fun _ h => h)
        have hk14 : e 14 ≠ none → e 14 = some (.bool false) := fun h => know_dep hT h rfl (hk5 (hT.order 14 5 h (by kernel_rfl))) (fun _ h => h)
        have hk21 : e 21 ≠ none → e 21 = some (.bool true) := fun h => know_free hT h rfl (fun _ h => h)
        have hk25 : e 25 ≠ none → e 25 = some (.bool true) := fun h => know_dep hT h rfl (hk21 (hT.order 25 21 h (by kernel_rfl))) (fun _ h => h)
        have hi : i < 34 := by have := (List.getElem?_eq_some_iff.1 ho).1; simpa using this
        have hi : i = 0 ∨ i = 1 ∨ i = 2 ∨ i = 3 ∨ i = 4 ∨ i = 5 ∨ i = 6 ∨ i = 7 ∨ i = 8 ∨ i = 9 ∨ i = 10 ∨ i = 11 ∨ i = 12 ∨ i = 13 ∨ i = 14 ∨ i = 15 ∨ i = 16 ∨ i = 17 ∨ i = 18 ∨ i = 19 ∨ i = 20 ∨ i = 21 ∨ i = 22 ∨ i = 23 ∨ i = 24 ∨ i = 25 ∨ i = 26 ∨ i = 27 ∨ i = 28 ∨ i = 29 ∨ i = 30 ∨ i = 31 ∨ i = 32 ∨ i = 33 := by omega
        rcases hi with rfl | rfl | rfl | rfl | rfl | rfl | rfl | rfl | rfl | rfl | rfl | rfl | rfl | rfl | rfl | rfl | rfl | rfl | rfl | rfl | rfl | rfl | rfl | rfl | rfl | rfl | rfl | rfl | rfl | rfl | rfl | rfl | rfl | rfl
        all_goals
          simp only [List.getElem?_cons_succ, List.getElem?_cons_zero, Option.some.injEq] at ho
          subst ho
        · exact wp_of_runL (rMove _ _ _ _ _ A' w (.tmp 7) _ q7) ⟨_, rfl, rfl, LeavesE.plain (fun _ _ _ _ h hb => below_step h hb) (Below.refl _ _) (by decide)⟩
        · have q139 : A'.eval (.tmp 139) = .bool true := (hsee 139 0 (by kernel_rfl) (by kernel_rfl)).2 (want_free (by kernel_rfl))
          exact wp_of_runL (rMove _ _ _ _ _ A' w (.tmp 139) _ q139) ⟨_, rfl, rfl, LeavesE.plain (fun _ _ _ _ h hb => below_step h hb) (Below.refl _ _) (by decide)⟩
        · exact wp_of_runL (rField _ _ _ _ _ A' w 27 (.tmp 3) 0 N0 0 0 _ _ Tryz.underlying27 rfl (by kernel_rfl) rfl (by kernel_rfl) q3) ⟨_, rfl, rfl, LeavesE.plain (fun _ _ _ _ h hb => below_step h hb) (Below.refl _ _) (by decide)⟩
        · have q141 : A'.eval (.tmp 141) = .pointer (some ⟨N0, 0, none⟩) := (hsee 141 2 (by kernel_rfl) (by kernel_rfl)).2 (hwn.same (by kernel_rfl))
          exact wp_of_runL (rLoad1 _ _ _ _ _ A' w 3 (.tmp 141) _ _ _ Tryz.underlying3 rfl (HOpc.out w hlow) q141) ⟨_, rfl, rfl, LeavesE.plain (fun _ _ _ _ h hb => below_step h hb) (Below.refl _ _) (by decide)⟩
        · have q142 : A'.eval (.tmp 142) = .int .i64 4 := (hsee 142 3 (by kernel_rfl) (by kernel_rfl)).2 (hwn.same (by kernel_rfl))
          exact wp_of_runL (rNeqInt _ _ _ _ _ A' w _ _ (.tmp 142) _ _ 4 _ HN4.out q142 rfl) ⟨_, rfl, rfl, LeavesE.plain (fun _ _ _ _ h hb => below_step h hb) (Below.refl _ _) (by decide)⟩
        · have q143 : A'.eval (.tmp 143) = .bool false := (hsee 143 4 (by kernel_rfl) (by kernel_rfl)).2 (hwn.same (by kernel_rfl))
          exact wp_of_runL (rMove _ _ _ _ _ A' w (.tmp 143) _ q143) ⟨_, rfl, rfl, LeavesE.plain (fun _ _ _ _ h hb => below_step h hb) (Below.refl _ _) (by decide)⟩
        · exact wp_of_runL (rLoad _ _ _ _ _ A' w 27 (.tmp 15) g15 0 (evC xu) _ (HRu.out w hlow) Tryz.underlying27 rfl (by kernel_rfl) q15) ⟨_, rfl, rfl, LeavesE.plain (fun _ _ _ _ h hb => below_step h hb) (Below.refl _ _) (by decide)⟩
        · have q145 : A'.eval (.tmp 145) = .agg (evC xu).toArray := (hsee 145 6 (by kernel_rfl) (by kernel_rfl)).2 (hwn.same (by kernel_rfl))
          refine wp_of_callL _ _ _ _ _ _ _ 10 _ [.tmp 145] [.agg (evC xu).toArray] (by simp [q145]) (by kernel_rfl) ((HVu.out w).mono ?_)
          rintro e' w2 ⟨rfl, hb2⟩
          exact ⟨_, rfl, _, rfl, rfl, LeavesE.plain (fun _ _ _ _ h hb => below_step h hb) hb2 (by decide)⟩
        · exact wp_of_runL (rMove _ _ _ _ _ A' w (.tmp 1) _ q1) ⟨_, rfl, rfl, LeavesE.plain (fun _ _ _ _ h hb => below_step h hb) (Below.refl _ _) (by decide)⟩
        · exact wp_of_runL (rField _ _ _ _ _ A' w 27 (.tmp 3) 8 N0 0 8 _ _ Tryz.underlying27 rfl (by kernel_rfl) rfl (by kernel_rfl) q3) ⟨_, rfl, rfl, LeavesE.plain (fun _ _ _ _ h hb => below_step h hb) (Below.refl _ _) (by decide)⟩
        · have q148 : A'.eval (.tmp 148) = .pointer (some ⟨N0, 8, none⟩) := (hsee 148 9 (by kernel_rfl) (by kernel_rfl)).2 (hwn.same (by kernel_rfl))
          exact wp_of_runL (rField _ _ _ _ _ A' w 25 (.tmp 148) 0 N0 8 8 _ _ Tryz.underlying25 rfl (by kernel_rfl) rfl (by kernel_rfl) q148) ⟨_, rfl, rfl, LeavesE.plain (fun _ _ _ _ h hb => below_step h hb) (Below.refl _ _) (by decide)⟩
        · have q149 : A'.eval (.tmp 149) = .pointer (some ⟨N0, 8, none⟩) := (hsee 149 10 (by kernel_rfl) (by kernel_rfl)).2 (hwn.same (by kernel_rfl))
          exact wp_of_runL (rField _ _ _ _ _ A' w 23 (.tmp 149) 0 N0 8 8 _ _ Tryz.underlying23 rfl (by kernel_rfl) rfl (by kernel_rfl) q149) ⟨_, rfl, rfl, LeavesE.plain (fun _ _ _ _ h hb => below_step h hb) (Below.refl _ _) (by decide)⟩
        · have q150 : A'.eval (.tmp 150) = .pointer (some ⟨N0, 8, none⟩) := (hsee 150 11 (by kernel_rfl) (by kernel_rfl)).2 (hwn.same (by kernel_rfl))
          exact wp_of_runL (rLoad1 _ _ _ _ _ A' w 3 (.tmp 150) _ _ _ Tryz.underlying3 rfl (HK0c.out w hlow) q150) ⟨_, rfl, rfl, LeavesE.plain (fun _ _ _ _ h hb => below_step h hb) (Below.refl _ _) (by decide)⟩
        · have q147 : A'.eval (.tmp 147) = .int .i64 n := (hsee 147 8 (by kernel_rfl) (by kernel_rfl)).2 (hwn.same (by kernel_rfl))
          have q151 : A'.eval (.tmp 151) = .int .i64 k0 := (hsee 151 12 (by kernel_rfl) (by kernel_rfl)).2 (hwn.same (by kernel_rfl))
          exact wp_of_runL (rGeqInt _ _ _ _ _ A' w _ _ (.tmp 147) (.tmp 151) _ _ _ HG1.out q147 q151) ⟨_, rfl, rfl, LeavesE.plain (fun _ _ _ _ h hb => below_step h hb) (Below.refl _ _) (by decide)⟩
        · have q152 : A'.eval (.tmp 152) = .bool false := (hsee 152 13 (by kernel_rfl) (by kernel_rfl)).2 (hwn.same (by kernel_rfl))
          exact wp_of_runL (rMove _ _ _ _ _ A' w (.tmp 152) _ q152) ⟨_, rfl, rfl, LeavesE.plain (fun _ _ _ _ h hb => below_step h hb) (Below.refl _ _) (by decide)⟩
        · exact absurd ((hk14 (by rw [hwn 14 true rfl]; simp)).symm.trans (hwn 14 true rfl)) (by intro h; cases h)
        · exact absurd ((hk14 (by rw [hwn 14 true rfl]; simp)).symm.trans (hwn 14 true rfl)) (by intro h; cases h)
        · have q153 : A'.eval (.tmp 153) = .bool false := (hsee 153 14 (by kernel_rfl) (by kernel_rfl)).2 (hwn.same (by kernel_rfl))
          exact wp_of_runL (rPick _ _ _ _ _ A' w (.tmp 153) (.tmp 155) (.const (Value.bool false)) _ _ q153 (by rw [if_neg (by decide)]; exact rfl)) ⟨_, rfl, rfl, LeavesE.plain (fun _ _ _ _ h hb => below_step h hb) (Below.refl _ _) (by decide)⟩
        · have q146 : A'.eval (.tmp 146) = .bool false := (hsee 146 7 (by kernel_rfl) (by kernel_rfl)).2 (hwn.same (by kernel_rfl))
          have q156 : A'.eval (.tmp 156) = .bool false := (hsee 156 17 (by kernel_rfl) (by kernel_rfl)).2 (hwn.same (by kernel_rfl))
          exact wp_of_runL (rEqlBoolU _ _ _ _ _ A' w (.tmp 146) (.tmp 156) _ q146 q156) ⟨_, rfl, rfl, LeavesE.plain (fun _ _ _ _ h hb => below_step h hb) (Below.refl _ _) (by decide)⟩
        · have q144 : A'.eval (.tmp 144) = .bool false := (hsee 144 5 (by kernel_rfl) (by kernel_rfl)).2 (hwn.same (by kernel_rfl))
          have q157 : A'.eval (.tmp 157) = .bool true := (hsee 157 18 (by kernel_rfl) (by kernel_rfl)).2 (fun g b hg => by cases hg; exact hk5 (hT.order 18 5 (by rw [(hsee 157 18 (by kernel_rfl) (by kernel_rfl)).1]; simp) (by kernel_rfl)))
          exact wp_of_runL (rPick _ _ _ _ _ A' w (.tmp 144) (.const (Value.bool true)) (.tmp 157) _ _ q144 (by rw [if_neg (by decide)]; exact q157)) ⟨_, rfl, rfl, LeavesE.plain (fun _ _ _ _ h hb => below_step h hb) (Below.refl _ _) (by decide)⟩
        · have q140 : A'.eval (.tmp 140) = .bool true := (hsee 140 1 (by kernel_rfl) (by kernel_rfl)).2 (want_free (by kernel_rfl))
          have q158 : A'.eval (.tmp 158) = .bool true := (hsee 158 19 (by kernel_rfl) (by kernel_rfl)).2 (fun g b hg => by cases hg; exact hk1 (hT.order 19 1 (by rw [(hsee 158 19 (by kernel_rfl) (by kernel_rfl)).1]; simp) (by kernel_rfl)))
          exact wp_of_runL (rPick _ _ _ _ _ A' w (.tmp 140) (.tmp 158) (.const (Value.bool false)) _ _ q140 (by rw [if_pos rfl]; exact q158)) ⟨_, rfl, rfl, LeavesE.plain (fun _ _ _ _ h hb => below_step h hb) (Below.refl _ _) (by decide)⟩
        · have q159 : A'.eval (.tmp 159) = .bool true := (hsee 159 20 (by kernel_rfl) (by kernel_rfl)).2 (want_free (by kernel_rfl))
          exact wp_of_runL (rMove _ _ _ _ _ A' w (.tmp 159) _ q159) ⟨_, rfl, rfl, LeavesE.plain (fun _ _ _ _ h hb => below_step h hb) (Below.refl _ _) (by decide)⟩
        · exact wp_of_runL (rField _ _ _ _ _ A' w 27 (.tmp 3) 0 N0 0 0 _ _ Tryz.underlying27 rfl (by kernel_rfl) rfl (by kernel_rfl) q3) ⟨_, rfl, rfl, LeavesE.plain (fun _ _ _ _ h hb => below_step h hb) (Below.refl _ _) (by decide)⟩
        · have q161 : A'.eval (.tmp 161) = .pointer (some ⟨N0, 0, none⟩) := (hsee 161 22 (by kernel_rfl) (by kernel_rfl)).2 (hwn.same (by kernel_rfl))
          exact wp_of_runL (rLoad1 _ _ _ _ _ A' w 3 (.tmp 161) _ _ _ Tryz.underlying3 rfl (HOpc.out w hlow) q161) ⟨_, rfl, rfl, LeavesE.plain (fun _ _ _ _ h hb => below_step h hb) (Below.refl _ _) (by decide)⟩
        · have q162 : A'.eval (.tmp 162) = .int .i64 4 := (hsee 162 23 (by kernel_rfl) (by kernel_rfl)).2 (hwn.same (by kernel_rfl))
          exact wp_of_runL (rNeqInt _ _ _ _ _ A' w _ _ (.tmp 162) _ _ 1 _ HN1.out q162 rfl) ⟨_, rfl, rfl, LeavesE.plain (fun _ _ _ _ h hb => below_step h hb) (Below.refl _ _) (by decide)⟩
        · have q163 : A'.eval (.tmp 163) = .bool true := (hsee 163 24 (by kernel_rfl) (by kernel_rfl)).2 (hwn.same (by kernel_rfl))
          exact wp_of_runL (rMove _ _ _ _ _ A' w (.tmp 163) _ q163) ⟨_, rfl, rfl, LeavesE.plain (fun _ _ _ _ h hb => below_step h hb) (Below.refl _ _) (by decide)⟩
        · exact absurd ((hk25 (by rw [hwn 25 false rfl]; simp)).symm.trans (hwn 25 false rfl)) (by intro h; cases h)
        · exact absurd ((hk25 (by rw [hwn 25 false rfl]; simp)).symm.trans (hwn 25 false rfl)) (by intro h; cases h)
        · exact absurd ((hk25 (by rw [hwn 25 false rfl]; simp)).symm.trans (hwn 25 false rfl)) (by intro h; cases h)
        · exact absurd ((hk25 (by rw [hwn 25 false rfl]; simp)).symm.trans (hwn 25 false rfl)) (by intro h; cases h)
        · exact absurd ((hk25 (by rw [hwn 25 false rfl]; simp)).symm.trans (hwn 25 false rfl)) (by intro h; cases h)
        · have q164 : A'.eval (.tmp 164) = .bool true := (hsee 164 25 (by kernel_rfl) (by kernel_rfl)).2 (hwn.same (by kernel_rfl))
          exact wp_of_runL (rPick _ _ _ _ _ A' w (.tmp 164) (.const (Value.bool true)) (.tmp 169) _ _ q164 (by rw [if_pos rfl]; exact rfl)) ⟨_, rfl, rfl, LeavesE.plain (fun _ _ _ _ h hb => below_step h hb) (Below.refl _ _) (by decide)⟩
        · have q160 : A'.eval (.tmp 160) = .bool true := (hsee 160 21 (by kernel_rfl) (by kernel_rfl)).2 (want_free (by kernel_rfl))
          have q170 : A'.eval (.tmp 170) = .bool true := (hsee 170 31 (by kernel_rfl) (by kernel_rfl)).2 (fun g b hg => by cases hg; exact hk21 (hT.order 31 21 (by rw [(hsee 170 31 (by kernel_rfl) (by kernel_rfl)).1]; simp) (by kernel_rfl)))
          exact wp_of_runL (rPick _ _ _ _ _ A' w (.tmp 160) (.tmp 170) (.const (Value.bool false)) _ _ q160 (by rw [if_pos rfl]; exact q170)) ⟨_, rfl, rfl, LeavesE.plain (fun _ _ _ _ h hb => below_step h hb) (Below.refl _ _) (by decide)⟩
        · have q171 : A'.eval (.tmp 171) = .bool true := (hsee 171 32 (by kernel_rfl) (by kernel_rfl)).2 (want_free (by kernel_rfl))
          exact wp_of_runL (rAssign _ _ _ _ _ A' w (.tmp 171) _ q171) ⟨_, rfl, rfl, LeavesE.plain (fun _ _ _ _ h hb => below_step h hb) (Below.refl _ _) (by decide)⟩
      intro e wz hT hall
      obtain ⟨v0, e0⟩ := hall 0 (by decide)
      obtain ⟨v1, e1⟩ := hall 1 (by decide)
      obtain ⟨v2, e2⟩ := hall 2 (by decide)
      obtain ⟨v3, e3⟩ := hall 3 (by decide)
      obtain ⟨v4, e4⟩ := hall 4 (by decide)
      obtain ⟨v5, e5⟩ := hall 5 (by decide)
      obtain ⟨v6, e6⟩ := hall 6 (by decide)
      obtain ⟨v7, e7⟩ := hall 7 (by decide)
      obtain ⟨v8, e8⟩ := hall 8 (by decide)
      obtain ⟨v9, e9⟩ := hall 9 (by decide)
      obtain ⟨v10, e10⟩ := hall 10 (by decide)
      obtain ⟨v11, e11⟩ := hall 11 (by decide)
      obtain ⟨v12, e12⟩ := hall 12 (by decide)
      obtain ⟨v13, e13⟩ := hall 13 (by decide)
      obtain ⟨v14, e14⟩ := hall 14 (by decide)
      obtain ⟨v15, e15⟩ := hall 15 (by decide)
      obtain ⟨v16, e16⟩ := hall 16 (by decide)
      obtain ⟨v17, e17⟩ := hall 17 (by decide)
      obtain ⟨v18, e18⟩ := hall 18 (by decide)
      obtain ⟨v19, e19⟩ := hall 19 (by decide)
      obtain ⟨v20, e20⟩ := hall 20 (by decide)
      obtain ⟨v21, e21⟩ := hall 21 (by decide)
      obtain ⟨v22, e22⟩ := hall 22 (by decide)
      obtain ⟨v23, e23⟩ := hall 23 (by decide)
      obtain ⟨v24, e24⟩ := hall 24 (by decide)
      obtain ⟨v25, e25⟩ := hall 25 (by decide)
      obtain ⟨v26, e26⟩ := hall 26 (by decide)
      obtain ⟨v27, e27⟩ := hall 27 (by decide)
      obtain ⟨v28, e28⟩ := hall 28 (by decide)
      obtain ⟨v29, e29⟩ := hall 29 (by decide)
      obtain ⟨v30, e30⟩ := hall 30 (by decide)
      obtain ⟨v31, e31⟩ := hall 31 (by decide)
      obtain ⟨v32, e32⟩ := hall 32 (by decide)
      obtain ⟨v33, e33⟩ := hall 33 (by decide)
      have h33' : v33 = .bool true := hT.pure 33 _ e33 (want_free (by kernel_rfl))
      subst h33'
      have hF0 := hT.fact 0 rfl (by simp) (by simp) (by kernel_rfl)
      try simp only [Nat.reduceAdd] at hF0
      simp only [List.length_cons, List.length_nil, Nat.reduceAdd, fillTo, e0, e1, e2, e3, e4, e5, e6, e7, e8, e9, e10, e11, e12, e13, e14, e15, e16, e17, e18, e19, e20, e21, e22, e23, e24, e25, e26, e27, e28, e29, e30, e31, e32, e33, dstOf]
      clear e0 e1 e2 e3 e4 e5 e6 e7 e8 e9 e10 e11 e12 e13 e14 e15 e16 e17 e18 e19 e20 e21 e22 e23 e24 e25 e26 e27 e28 e29 e30 e31 e32 e33 hT hall
      have HF0 := Lib.hid (show Below w22.heap.size w22 wz from hF0)
      clear hF0
      go_simp
      go_wp2_with fail
      go_ret
      exact ⟨rfl, below_step HB22.out HF0.out⟩
  by_cases h1 : xo = 1
  · have h1x : x.op = 1 := by rw [← Hxo.out]; exact h1
    have HOpc := Lib.hid (HCp.out 1 h1)
    have HN4 : Hid (((1 : Int) != 4) = true) := Lib.hid (by decide)
    have HN1 : Hid (((1 : Int) != 1) = false) := Lib.hid (by decide)
    obtain ⟨b1, Hb1⟩ : ∃ b, Hid (b = nm s) := ⟨_, Lib.hid rfl⟩
    have hv : Evt.valid xk = b1 := by rw [Hxk.out, valid_make HVt.out h1x, Hb1.out]
    have HVk := HVxk
    rw [hv] at HVk
    have HNa : Hid (∀ w, Calls Tryz.prog 13 #[.string s] w fun r w' => r = .returned (.bool b1) ∧ Below w.heap.size w w') := Lib.hid (fun w => (name_wide s (by have := HSs.out; omega) w).mono fun e w' ⟨h, h'⟩ => ⟨by rw [h, Hb1.out]; rfl, by rw [h']; exact Below.refl _ _⟩)
    clear hv h1 h1x h4
    apply wp_region_entE 172 [([], [])] ((fun _ _ w => Below w22.heap.size w22 w)) (fl22cV N0 g12 g15 xk xu n k0 xo s b1 b2) (fun _ _ _ _ _ _ _ _ h => h) (by kernel_rfl) (by kernel_rfl) rfl (fun _ _ _ => (Below.refl _ _).drew)
    · intro i o ho e w A' hT hei hwn hsee haway
      have q1 : A'.eval (.tmp 1) = .int .i64 n := (haway 1 (by kernel_rfl)).trans rfl
      have q2 : A'.eval (.tmp 2) = .string s := (haway 2 (by kernel_rfl)).trans rfl
      have q3 : A'.eval (.tmp 3) = .pointer (some ⟨N0, 0, none⟩) := (haway 3 (by kernel_rfl)).trans rfl
      have q7 : A'.eval (.tmp 7) = .bool true := (haway 7 (by kernel_rfl)).trans rfl
      have q12 : A'.eval (.tmp 12) = .pointer (some ⟨g12, 0, none⟩) := (haway 12 (by kernel_rfl)).trans rfl
      have q15 : A'.eval (.tmp 15) = .pointer (some ⟨g15, 0, none⟩) := (haway 15 (by kernel_rfl)).trans rfl
      have hlow : Below w22.heap.size w22 w := hT.fact 0 rfl (by simp) (by simp) rfl
      have hk1 : e 1 ≠ none → e 1 = some (.bool true) := fun h => know_free hT h rfl (fun _ h => h)
      have hk5 : e 5 ≠ none → e 5 = some (.bool true) := fun h => know_dep hT h rfl (hk1 (hT.order 5 1 h (by kernel_rfl))) (fun _ h => h)
      have hk21 : e 21 ≠ none → e 21 = some (.bool true) := fun h => know_free hT h rfl (fun _ h => h)
      have hk25 : e 25 ≠ none → e 25 = some (.bool false) := fun h => know_dep hT h rfl (hk21 (hT.order 25 21 h (by kernel_rfl))) (fun _ h => h)
      have hi : i < 34 := by have := (List.getElem?_eq_some_iff.1 ho).1; simpa using this
      have hi : i = 0 ∨ i = 1 ∨ i = 2 ∨ i = 3 ∨ i = 4 ∨ i = 5 ∨ i = 6 ∨ i = 7 ∨ i = 8 ∨ i = 9 ∨ i = 10 ∨ i = 11 ∨ i = 12 ∨ i = 13 ∨ i = 14 ∨ i = 15 ∨ i = 16 ∨ i = 17 ∨ i = 18 ∨ i = 19 ∨ i = 20 ∨ i = 21 ∨ i = 22 ∨ i = 23 ∨ i = 24 ∨ i = 25 ∨ i = 26 ∨ i = 27 ∨ i = 28 ∨ i = 29 ∨ i = 30 ∨ i = 31 ∨ i = 32 ∨ i = 33 := by omega
      rcases hi with rfl | rfl | rfl | rfl | rfl | rfl | rfl | rfl | rfl | rfl | rfl | rfl | rfl | rfl | rfl | rfl | rfl | rfl | rfl | rfl | rfl | rfl | rfl | rfl | rfl | rfl | rfl | rfl | rfl | rfl | rfl | rfl | rfl | rfl
      all_goals
        simp only [List.getElem?_cons_succ, List.getElem?_cons_zero, Option.some.injEq] at ho
        subst ho
      · exact wp_of_runL (rMove _ _ _ _ _ A' w (.tmp 7) _ q7) ⟨_, rfl, rfl, LeavesE.plain (fun _ _ _ _ h hb => below_step h hb) (Below.refl _ _) (by decide)⟩
      · have q139 : A'.eval (.tmp 139) = .bool true := (hsee 139 0 (by kernel_rfl) (by kernel_rfl)).2 (want_free (by kernel_rfl))
        exact wp_of_runL (rMove _ _ _ _ _ A' w (.tmp 139) _ q139) ⟨_, rfl, rfl, LeavesE.plain (fun _ _ _ _ h hb => below_step h hb) (Below.refl _ _) (by decide)⟩
      · exact wp_of_runL (rField _ _ _ _ _ A' w 27 (.tmp 3) 0 N0 0 0 _ _ Tryz.underlying27 rfl (by kernel_rfl) rfl (by kernel_rfl) q3) ⟨_, rfl, rfl, LeavesE.plain (fun _ _ _ _ h hb => below_step h hb) (Below.refl _ _) (by decide)⟩
      · have q141 : A'.eval (.tmp 141) = .pointer (some ⟨N0, 0, none⟩) := (hsee 141 2 (by kernel_rfl) (by kernel_rfl)).2 (hwn.same (by kernel_rfl))
        exact wp_of_runL (rLoad1 _ _ _ _ _ A' w 3 (.tmp 141) _ _ _ Tryz.underlying3 rfl (HOpc.out w hlow) q141) ⟨_, rfl, rfl, LeavesE.plain (fun _ _ _ _ h hb => below_step h hb) (Below.refl _ _) (by decide)⟩
      · have q142 : A'.eval (.tmp 142) = .int .i64 1 := (hsee 142 3 (by kernel_rfl) (by kernel_rfl)).2 (hwn.same (by kernel_rfl))
        exact wp_of_runL (rNeqInt _ _ _ _ _ A' w _ _ (.tmp 142) _ _ 4 _ HN4.out q142 rfl) ⟨_, rfl, rfl, LeavesE.plain (fun _ _ _ _ h hb => below_step h hb) (Below.refl _ _) (by decide)⟩
      · have q143 : A'.eval (.tmp 143) = .bool true := (hsee 143 4 (by kernel_rfl) (by kernel_rfl)).2 (hwn.same (by kernel_rfl))
        exact wp_of_runL (rMove _ _ _ _ _ A' w (.tmp 143) _ q143) ⟨_, rfl, rfl, LeavesE.plain (fun _ _ _ _ h hb => below_step h hb) (Below.refl _ _) (by decide)⟩
      · exact absurd ((hk5 (by rw [hwn 5 false rfl]; simp)).symm.trans (hwn 5 false rfl)) (by intro h; cases h)
      · exact absurd ((hk5 (by rw [hwn 5 false rfl]; simp)).symm.trans (hwn 5 false rfl)) (by intro h; cases h)
      · exact absurd ((hk5 (by rw [hwn 5 false rfl]; simp)).symm.trans (hwn 5 false rfl)) (by intro h; cases h)
      · exact absurd ((hk5 (by rw [hwn 5 false rfl]; simp)).symm.trans (hwn 5 false rfl)) (by intro h; cases h)
      · exact absurd ((hk5 (by rw [hwn 5 false rfl]; simp)).symm.trans (hwn 5 false rfl)) (by intro h; cases h)
      · exact absurd ((hk5 (by rw [hwn 5 false rfl]; simp)).symm.trans (hwn 5 false rfl)) (by intro h; cases h)
      · exact absurd ((hk5 (by rw [hwn 5 false rfl]; simp)).symm.trans (hwn 5 false rfl)) (by intro h; cases h)
      · exact absurd ((hk5 (by rw [hwn 5 false rfl]; simp)).symm.trans (hwn 5 false rfl)) (by intro h; cases h)
      · exact absurd ((hk5 (by rw [hwn 5 false rfl]; simp)).symm.trans (hwn 5 false rfl)) (by intro h; cases h)
      · exact wp_of_runL (rMove _ _ _ _ _ A' w (.tmp 1) _ q1) ⟨_, rfl, rfl, LeavesE.plain (fun _ _ _ _ h hb => below_step h hb) (Below.refl _ _) (by decide)⟩
      · have q154 : A'.eval (.tmp 154) = .int .i64 n := (hsee 154 15 (by kernel_rfl) (by kernel_rfl)).2 (hwn.same (by kernel_rfl))
        exact wp_of_runL (rLeqInt _ _ _ _ _ A' w _ _ (.tmp 154) _ _ _ _ HG2.out q154 rfl) ⟨_, rfl, rfl, LeavesE.plain (fun _ _ _ _ h hb => below_step h hb) (Below.refl _ _) (by decide)⟩
      · exact absurd ((hk5 (by rw [hwn 5 false rfl]; simp)).symm.trans (hwn 5 false rfl)) (by intro h; cases h)
      · exact absurd ((hk5 (by rw [hwn 5 false rfl]; simp)).symm.trans (hwn 5 false rfl)) (by intro h; cases h)
      · have q144 : A'.eval (.tmp 144) = .bool true := (hsee 144 5 (by kernel_rfl) (by kernel_rfl)).2 (hwn.same (by kernel_rfl))
        exact wp_of_runL (rPick _ _ _ _ _ A' w (.tmp 144) (.const (Value.bool true)) (.tmp 157) _ _ q144 (by rw [if_pos rfl]; exact rfl)) ⟨_, rfl, rfl, LeavesE.plain (fun _ _ _ _ h hb => below_step h hb) (Below.refl _ _) (by decide)⟩
      · have q140 : A'.eval (.tmp 140) = .bool true := (hsee 140 1 (by kernel_rfl) (by kernel_rfl)).2 (want_free (by kernel_rfl))
        have q158 : A'.eval (.tmp 158) = .bool true := (hsee 158 19 (by kernel_rfl) (by kernel_rfl)).2 (fun g b hg => by cases hg; exact hk1 (hT.order 19 1 (by rw [(hsee 158 19 (by kernel_rfl) (by kernel_rfl)).1]; simp) (by kernel_rfl)))
        exact wp_of_runL (rPick _ _ _ _ _ A' w (.tmp 140) (.tmp 158) (.const (Value.bool false)) _ _ q140 (by rw [if_pos rfl]; exact q158)) ⟨_, rfl, rfl, LeavesE.plain (fun _ _ _ _ h hb => below_step h hb) (Below.refl _ _) (by decide)⟩
      · have q159 : A'.eval (.tmp 159) = .bool true := (hsee 159 20 (by kernel_rfl) (by kernel_rfl)).2 (want_free (by kernel_rfl))
        exact wp_of_runL (rMove _ _ _ _ _ A' w (.tmp 159) _ q159) ⟨_, rfl, rfl, LeavesE.plain (fun _ _ _ _ h hb => below_step h hb) (Below.refl _ _) (by decide)⟩
      · exact wp_of_runL (rField _ _ _ _ _ A' w 27 (.tmp 3) 0 N0 0 0 _ _ Tryz.underlying27 rfl (by kernel_rfl) rfl (by kernel_rfl) q3) ⟨_, rfl, rfl, LeavesE.plain (fun _ _ _ _ h hb => below_step h hb) (Below.refl _ _) (by decide)⟩
      · have q161 : A'.eval (.tmp 161) = .pointer (some ⟨N0, 0, none⟩) := (hsee 161 22 (by kernel_rfl) (by kernel_rfl)).2 (hwn.same (by kernel_rfl))
        exact wp_of_runL (rLoad1 _ _ _ _ _ A' w 3 (.tmp 161) _ _ _ Tryz.underlying3 rfl (HOpc.out w hlow) q161) ⟨_, rfl, rfl, LeavesE.plain (fun _ _ _ _ h hb => below_step h hb) (Below.refl _ _) (by decide)⟩
      · have q162 : A'.eval (.tmp 162) = .int .i64 1 := (hsee 162 23 (by kernel_rfl) (by kernel_rfl)).2 (hwn.same (by kernel_rfl))
        exact wp_of_runL (rNeqInt _ _ _ _ _ A' w _ _ (.tmp 162) _ _ 1 _ HN1.out q162 rfl) ⟨_, rfl, rfl, LeavesE.plain (fun _ _ _ _ h hb => below_step h hb) (Below.refl _ _) (by decide)⟩
      · have q163 : A'.eval (.tmp 163) = .bool false := (hsee 163 24 (by kernel_rfl) (by kernel_rfl)).2 (hwn.same (by kernel_rfl))
        exact wp_of_runL (rMove _ _ _ _ _ A' w (.tmp 163) _ q163) ⟨_, rfl, rfl, LeavesE.plain (fun _ _ _ _ h hb => below_step h hb) (Below.refl _ _) (by decide)⟩
      · exact wp_of_runL (rLoad _ _ _ _ _ A' w 27 (.tmp 12) g12 0 (evC xk) _ (HRk.out w hlow) Tryz.underlying27 rfl (by kernel_rfl) q12) ⟨_, rfl, rfl, LeavesE.plain (fun _ _ _ _ h hb => below_step h hb) (Below.refl _ _) (by decide)⟩
      · have q165 : A'.eval (.tmp 165) = .agg (evC xk).toArray := (hsee 165 26 (by kernel_rfl) (by kernel_rfl)).2 (hwn.same (by kernel_rfl))
        refine wp_of_callL _ _ _ _ _ _ _ 10 _ [.tmp 165] [.agg (evC xk).toArray] (by simp [q165]) (by kernel_rfl) ((HVk.out w).mono ?_)
        rintro e' w2 ⟨rfl, hb2⟩
        exact ⟨_, rfl, _, rfl, rfl, LeavesE.plain (fun _ _ _ _ h hb => below_step h hb) hb2 (by decide)⟩
      · exact wp_of_runL (rMove _ _ _ _ _ A' w (.tmp 2) _ q2) ⟨_, rfl, rfl, LeavesE.plain (fun _ _ _ _ h hb => below_step h hb) (Below.refl _ _) (by decide)⟩
      · have q167 : A'.eval (.tmp 167) = .string s := (hsee 167 28 (by kernel_rfl) (by kernel_rfl)).2 (hwn.same (by kernel_rfl))
        refine wp_of_callL _ _ _ _ _ _ _ 13 _ [.tmp 167] [.string s] (by simp [q167]) (by kernel_rfl) ((HNa.out w).mono ?_)
        rintro e' w2 ⟨rfl, hb2⟩
        exact ⟨_, rfl, _, rfl, rfl, LeavesE.plain (fun _ _ _ _ h hb => below_step h hb) hb2 (by decide)⟩
      · have q166 : A'.eval (.tmp 166) = .bool b1 := (hsee 166 27 (by kernel_rfl) (by kernel_rfl)).2 (hwn.same (by kernel_rfl))
        have q168 : A'.eval (.tmp 168) = .bool b1 := (hsee 168 29 (by kernel_rfl) (by kernel_rfl)).2 (hwn.same (by kernel_rfl))
        exact wp_of_runL (rEqlBoolU _ _ _ _ _ A' w (.tmp 166) (.tmp 168) _ q166 q168) ⟨_, rfl, rfl, LeavesE.plain (fun _ _ _ _ h hb => below_step h hb) (Below.refl _ _) (by decide)⟩
      · have q164 : A'.eval (.tmp 164) = .bool false := (hsee 164 25 (by kernel_rfl) (by kernel_rfl)).2 (hwn.same (by kernel_rfl))
        have q169 : A'.eval (.tmp 169) = .bool true := (hsee 169 30 (by kernel_rfl) (by kernel_rfl)).2 (fun g b hg => by cases hg; exact hk25 (hT.order 30 25 (by rw [(hsee 169 30 (by kernel_rfl) (by kernel_rfl)).1]; simp) (by kernel_rfl)))
        exact wp_of_runL (rPick _ _ _ _ _ A' w (.tmp 164) (.const (Value.bool true)) (.tmp 169) _ _ q164 (by rw [if_neg (by decide)]; exact q169)) ⟨_, rfl, rfl, LeavesE.plain (fun _ _ _ _ h hb => below_step h hb) (Below.refl _ _) (by decide)⟩
      · have q160 : A'.eval (.tmp 160) = .bool true := (hsee 160 21 (by kernel_rfl) (by kernel_rfl)).2 (want_free (by kernel_rfl))
        have q170 : A'.eval (.tmp 170) = .bool true := (hsee 170 31 (by kernel_rfl) (by kernel_rfl)).2 (fun g b hg => by cases hg; exact hk21 (hT.order 31 21 (by rw [(hsee 170 31 (by kernel_rfl) (by kernel_rfl)).1]; simp) (by kernel_rfl)))
        exact wp_of_runL (rPick _ _ _ _ _ A' w (.tmp 160) (.tmp 170) (.const (Value.bool false)) _ _ q160 (by rw [if_pos rfl]; exact q170)) ⟨_, rfl, rfl, LeavesE.plain (fun _ _ _ _ h hb => below_step h hb) (Below.refl _ _) (by decide)⟩
      · have q171 : A'.eval (.tmp 171) = .bool true := (hsee 171 32 (by kernel_rfl) (by kernel_rfl)).2 (want_free (by kernel_rfl))
        exact wp_of_runL (rAssign _ _ _ _ _ A' w (.tmp 171) _ q171) ⟨_, rfl, rfl, LeavesE.plain (fun _ _ _ _ h hb => below_step h hb) (Below.refl _ _) (by decide)⟩
    intro e wz hT hall
    obtain ⟨v0, e0⟩ := hall 0 (by decide)
    obtain ⟨v1, e1⟩ := hall 1 (by decide)
    obtain ⟨v2, e2⟩ := hall 2 (by decide)
    obtain ⟨v3, e3⟩ := hall 3 (by decide)
    obtain ⟨v4, e4⟩ := hall 4 (by decide)
    obtain ⟨v5, e5⟩ := hall 5 (by decide)
    obtain ⟨v6, e6⟩ := hall 6 (by decide)
    obtain ⟨v7, e7⟩ := hall 7 (by decide)
    obtain ⟨v8, e8⟩ := hall 8 (by decide)
    obtain ⟨v9, e9⟩ := hall 9 (by decide)
    obtain ⟨v10, e10⟩ := hall 10 (by decide)
    obtain ⟨v11, e11⟩ := hall 11 (by decide)
    obtain ⟨v12, e12⟩ := hall 12 (by decide)
    obtain ⟨v13, e13⟩ := hall 13 (by decide)
    obtain ⟨v14, e14⟩ := hall 14 (by decide)
    obtain ⟨v15, e15⟩ := hall 15 (by decide)
    obtain ⟨v16, e16⟩ := hall 16 (by decide)
    obtain ⟨v17, e17⟩ := hall 17 (by decide)
    obtain ⟨v18, e18⟩ := hall 18 (by decide)
    obtain ⟨v19, e19⟩ := hall 19 (by decide)
    obtain ⟨v20, e20⟩ := hall 20 (by decide)
    obtain ⟨v21, e21⟩ := hall 21 (by decide)
    obtain ⟨v22, e22⟩ := hall 22 (by decide)
    obtain ⟨v23, e23⟩ := hall 23 (by decide)
    obtain ⟨v24, e24⟩ := hall 24 (by decide)
    obtain ⟨v25, e25⟩ := hall 25 (by decide)
    obtain ⟨v26, e26⟩ := hall 26 (by decide)
    obtain ⟨v27, e27⟩ := hall 27 (by decide)
    obtain ⟨v28, e28⟩ := hall 28 (by decide)
    obtain ⟨v29, e29⟩ := hall 29 (by decide)
    obtain ⟨v30, e30⟩ := hall 30 (by decide)
    obtain ⟨v31, e31⟩ := hall 31 (by decide)
    obtain ⟨v32, e32⟩ := hall 32 (by decide)
    obtain ⟨v33, e33⟩ := hall 33 (by decide)
    have h33' : v33 = .bool true := hT.pure 33 _ e33 (want_free (by kernel_rfl))
    subst h33'
    have hF0 := hT.fact 0 rfl (by simp) (by simp) (by kernel_rfl)
    try simp only [Nat.reduceAdd] at hF0
    simp only [List.length_cons, List.length_nil, Nat.reduceAdd, fillTo, e0, e1, e2, e3, e4, e5, e6, e7, e8, e9, e10, e11, e12, e13, e14, e15, e16, e17, e18, e19, e20, e21, e22, e23, e24, e25, e26, e27, e28, e29, e30, e31, e32, e33, dstOf]
    clear e0 e1 e2 e3 e4 e5 e6 e7 e8 e9 e10 e11 e12 e13 e14 e15 e16 e17 e18 e19 e20 e21 e22 e23 e24 e25 e26 e27 e28 e29 e30 e31 e32 e33 hT hall
    have HF0 := Lib.hid (show Below w22.heap.size w22 wz from hF0)
    clear hF0
    go_simp
    go_wp2_with fail
    go_ret
    exact ⟨rfl, below_step HB22.out HF0.out⟩
  have HOpc := Lib.hid (HCp.out xo rfl)
  have HN4 : Hid ((xo != 4) = true) := Lib.hid (by simpa using h4)
  have HN1 : Hid ((xo != 1) = true) := Lib.hid (by simpa using h1)
  clear h4 h1
  apply wp_region_entE 172 [([], [])] ((fun _ _ w => Below w22.heap.size w22 w)) (fl22dV N0 g12 g15 xk xu n k0 xo s true b2) (fun _ _ _ _ _ _ _ _ h => h) (by kernel_rfl) (by kernel_rfl) rfl (fun _ _ _ => (Below.refl _ _).drew)
  · intro i o ho e w A' hT hei hwn hsee haway
    have q1 : A'.eval (.tmp 1) = .int .i64 n := (haway 1 (by kernel_rfl)).trans rfl
    have q2 : A'.eval (.tmp 2) = .string s := (haway 2 (by kernel_rfl)).trans rfl
    have q3 : A'.eval (.tmp 3) = .pointer (some ⟨N0, 0, none⟩) := (haway 3 (by kernel_rfl)).trans rfl
    have q7 : A'.eval (.tmp 7) = .bool true := (haway 7 (by kernel_rfl)).trans rfl
    have q12 : A'.eval (.tmp 12) = .pointer (some ⟨g12, 0, none⟩) := (haway 12 (by kernel_rfl)).trans rfl
    have q15 : A'.eval (.tmp 15) = .pointer (some ⟨g15, 0, none⟩) := (haway 15 (by kernel_rfl)).trans rfl
    have hlow : Below w22.heap.size w22 w := hT.fact 0 rfl (by simp) (by simp) rfl
    have hk1 : e 1 ≠ none → e 1 = some (.bool true) := fun h => know_free hT h rfl (fun _ h => h)
    have hk5 : e 5 ≠ none → e 5 = some (.bool true) := fun h => know_dep hT h rfl (hk1 (hT.order 5 1 h (by kernel_rfl))) (fun _ h => h)
    have hk21 : e 21 ≠ none → e 21 = some (.bool true) := fun h => know_free hT h rfl (fun _ h => h)
    have hk25 : e 25 ≠ none → e 25 = some (.bool true) := fun h => know_dep hT h rfl (hk21 (hT.order 25 21 h (by kernel_rfl))) (fun _ h => h)
    have hi : i < 34 := by have := (List.getElem?_eq_some_iff.1 ho).1; simpa using this
    have hi : i = 0 ∨ i = 1 ∨ i = 2 ∨ i = 3 ∨ i = 4 ∨ i = 5 ∨ i = 6 ∨ i = 7 ∨ i = 8 ∨ i = 9 ∨ i = 10 ∨ i = 11 ∨ i = 12 ∨ i = 13 ∨ i = 14 ∨ i = 15 ∨ i = 16 ∨ i = 17 ∨ i = 18 ∨ i = 19 ∨ i = 20 ∨ i = 21 ∨ i = 22 ∨ i = 23 ∨ i = 24 ∨ i = 25 ∨ i = 26 ∨ i = 27 ∨ i = 28 ∨ i = 29 ∨ i = 30 ∨ i = 31 ∨ i = 32 ∨ i = 33 := by omega
    rcases hi with rfl | rfl | rfl | rfl | rfl | rfl | rfl | rfl | rfl | rfl | rfl | rfl | rfl | rfl | rfl | rfl | rfl | rfl | rfl | rfl | rfl | rfl | rfl | rfl | rfl | rfl | rfl | rfl | rfl | rfl | rfl | rfl | rfl | rfl
    all_goals
      simp only [List.getElem?_cons_succ, List.getElem?_cons_zero, Option.some.injEq] at ho
      subst ho
    · exact wp_of_runL (rMove _ _ _ _ _ A' w (.tmp 7) _ q7) ⟨_, rfl, rfl, LeavesE.plain (fun _ _ _ _ h hb => below_step h hb) (Below.refl _ _) (by decide)⟩
    · have q139 : A'.eval (.tmp 139) = .bool true := (hsee 139 0 (by kernel_rfl) (by kernel_rfl)).2 (want_free (by kernel_rfl))
      exact wp_of_runL (rMove _ _ _ _ _ A' w (.tmp 139) _ q139) ⟨_, rfl, rfl, LeavesE.plain (fun _ _ _ _ h hb => below_step h hb) (Below.refl _ _) (by decide)⟩
    · exact wp_of_runL (rField _ _ _ _ _ A' w 27 (.tmp 3) 0 N0 0 0 _ _ Tryz.underlying27 rfl (by kernel_rfl) rfl (by kernel_rfl) q3) ⟨_, rfl, rfl, LeavesE.plain (fun _ _ _ _ h hb => below_step h hb) (Below.refl _ _) (by decide)⟩
    · have q141 : A'.eval (.tmp 141) = .pointer (some ⟨N0, 0, none⟩) := (hsee 141 2 (by kernel_rfl) (by kernel_rfl)).2 (hwn.same (by kernel_rfl))
      exact wp_of_runL (rLoad1 _ _ _ _ _ A' w 3 (.tmp 141) _ _ _ Tryz.underlying3 rfl (HOpc.out w hlow) q141) ⟨_, rfl, rfl, LeavesE.plain (fun _ _ _ _ h hb => below_step h hb) (Below.refl _ _) (by decide)⟩
    · have q142 : A'.eval (.tmp 142) = .int .i64 xo := (hsee 142 3 (by kernel_rfl) (by kernel_rfl)).2 (hwn.same (by kernel_rfl))
      exact wp_of_runL (rNeqInt _ _ _ _ _ A' w _ _ (.tmp 142) _ _ 4 _ HN4.out q142 rfl) ⟨_, rfl, rfl, LeavesE.plain (fun _ _ _ _ h hb => below_step h hb) (Below.refl _ _) (by decide)⟩
    · have q143 : A'.eval (.tmp 143) = .bool true := (hsee 143 4 (by kernel_rfl) (by kernel_rfl)).2 (hwn.same (by kernel_rfl))
      exact wp_of_runL (rMove _ _ _ _ _ A' w (.tmp 143) _ q143) ⟨_, rfl, rfl, LeavesE.plain (fun _ _ _ _ h hb => below_step h hb) (Below.refl _ _) (by decide)⟩
    · exact absurd ((hk5 (by rw [hwn 5 false rfl]; simp)).symm.trans (hwn 5 false rfl)) (by intro h; cases h)
    · exact absurd ((hk5 (by rw [hwn 5 false rfl]; simp)).symm.trans (hwn 5 false rfl)) (by intro h; cases h)
    · exact absurd ((hk5 (by rw [hwn 5 false rfl]; simp)).symm.trans (hwn 5 false rfl)) (by intro h; cases h)
    · exact absurd ((hk5 (by rw [hwn 5 false rfl]; simp)).symm.trans (hwn 5 false rfl)) (by intro h; cases h)
    · exact absurd ((hk5 (by rw [hwn 5 false rfl]; simp)).symm.trans (hwn 5 false rfl)) (by intro h; cases h)
    · exact absurd ((hk5 (by rw [hwn 5 false rfl]; simp)).symm.trans (hwn 5 false rfl)) (by intro h; cases h)
    · exact absurd ((hk5 (by rw [hwn 5 false rfl]; simp)).symm.trans (hwn 5 false rfl)) (by intro h; cases h)
    · exact absurd ((hk5 (by rw [hwn 5 false rfl]; simp)).symm.trans (hwn 5 false rfl)) (by intro h; cases h)
    · exact absurd ((hk5 (by rw [hwn 5 false rfl]; simp)).symm.trans (hwn 5 false rfl)) (by intro h; cases h)
    · exact wp_of_runL (rMove _ _ _ _ _ A' w (.tmp 1) _ q1) ⟨_, rfl, rfl, LeavesE.plain (fun _ _ _ _ h hb => below_step h hb) (Below.refl _ _) (by decide)⟩
    · have q154 : A'.eval (.tmp 154) = .int .i64 n := (hsee 154 15 (by kernel_rfl) (by kernel_rfl)).2 (hwn.same (by kernel_rfl))
      exact wp_of_runL (rLeqInt _ _ _ _ _ A' w _ _ (.tmp 154) _ _ _ _ HG2.out q154 rfl) ⟨_, rfl, rfl, LeavesE.plain (fun _ _ _ _ h hb => below_step h hb) (Below.refl _ _) (by decide)⟩
    · exact absurd ((hk5 (by rw [hwn 5 false rfl]; simp)).symm.trans (hwn 5 false rfl)) (by intro h; cases h)
    · exact absurd ((hk5 (by rw [hwn 5 false rfl]; simp)).symm.trans (hwn 5 false rfl)) (by intro h; cases h)
    · have q144 : A'.eval (.tmp 144) = .bool true := (hsee 144 5 (by kernel_rfl) (by kernel_rfl)).2 (hwn.same (by kernel_rfl))
      exact wp_of_runL (rPick _ _ _ _ _ A' w (.tmp 144) (.const (Value.bool true)) (.tmp 157) _ _ q144 (by rw [if_pos rfl]; exact rfl)) ⟨_, rfl, rfl, LeavesE.plain (fun _ _ _ _ h hb => below_step h hb) (Below.refl _ _) (by decide)⟩
    · have q140 : A'.eval (.tmp 140) = .bool true := (hsee 140 1 (by kernel_rfl) (by kernel_rfl)).2 (want_free (by kernel_rfl))
      have q158 : A'.eval (.tmp 158) = .bool true := (hsee 158 19 (by kernel_rfl) (by kernel_rfl)).2 (fun g b hg => by cases hg; exact hk1 (hT.order 19 1 (by rw [(hsee 158 19 (by kernel_rfl) (by kernel_rfl)).1]; simp) (by kernel_rfl)))
      exact wp_of_runL (rPick _ _ _ _ _ A' w (.tmp 140) (.tmp 158) (.const (Value.bool false)) _ _ q140 (by rw [if_pos rfl]; exact q158)) ⟨_, rfl, rfl, LeavesE.plain (fun _ _ _ _ h hb => below_step h hb) (Below.refl _ _) (by decide)⟩
    · have q159 : A'.eval (.tmp 159) = .bool true := (hsee 159 20 (by kernel_rfl) (by kernel_rfl)).2 (want_free (by kernel_rfl))
      exact wp_of_runL (rMove _ _ _ _ _ A' w (.tmp 159) _ q159) ⟨_, rfl, rfl, LeavesE.plain (fun _ _ _ _ h hb => below_step h hb) (Below.refl _ _) (by decide)⟩
    · exact wp_of_runL (rField _ _ _ _ _ A' w 27 (.tmp 3) 0 N0 0 0 _ _ Tryz.underlying27 rfl (by kernel_rfl) rfl (by kernel_rfl) q3) ⟨_, rfl, rfl, LeavesE.plain (fun _ _ _ _ h hb => below_step h hb) (Below.refl _ _) (by decide)⟩
    · have q161 : A'.eval (.tmp 161) = .pointer (some ⟨N0, 0, none⟩) := (hsee 161 22 (by kernel_rfl) (by kernel_rfl)).2 (hwn.same (by kernel_rfl))
      exact wp_of_runL (rLoad1 _ _ _ _ _ A' w 3 (.tmp 161) _ _ _ Tryz.underlying3 rfl (HOpc.out w hlow) q161) ⟨_, rfl, rfl, LeavesE.plain (fun _ _ _ _ h hb => below_step h hb) (Below.refl _ _) (by decide)⟩
    · have q162 : A'.eval (.tmp 162) = .int .i64 xo := (hsee 162 23 (by kernel_rfl) (by kernel_rfl)).2 (hwn.same (by kernel_rfl))
      exact wp_of_runL (rNeqInt _ _ _ _ _ A' w _ _ (.tmp 162) _ _ 1 _ HN1.out q162 rfl) ⟨_, rfl, rfl, LeavesE.plain (fun _ _ _ _ h hb => below_step h hb) (Below.refl _ _) (by decide)⟩
    · have q163 : A'.eval (.tmp 163) = .bool true := (hsee 163 24 (by kernel_rfl) (by kernel_rfl)).2 (hwn.same (by kernel_rfl))
      exact wp_of_runL (rMove _ _ _ _ _ A' w (.tmp 163) _ q163) ⟨_, rfl, rfl, LeavesE.plain (fun _ _ _ _ h hb => below_step h hb) (Below.refl _ _) (by decide)⟩
    · exact absurd ((hk25 (by rw [hwn 25 false rfl]; simp)).symm.trans (hwn 25 false rfl)) (by intro h; cases h)
    · exact absurd ((hk25 (by rw [hwn 25 false rfl]; simp)).symm.trans (hwn 25 false rfl)) (by intro h; cases h)
    · exact absurd ((hk25 (by rw [hwn 25 false rfl]; simp)).symm.trans (hwn 25 false rfl)) (by intro h; cases h)
    · exact absurd ((hk25 (by rw [hwn 25 false rfl]; simp)).symm.trans (hwn 25 false rfl)) (by intro h; cases h)
    · exact absurd ((hk25 (by rw [hwn 25 false rfl]; simp)).symm.trans (hwn 25 false rfl)) (by intro h; cases h)
    · have q164 : A'.eval (.tmp 164) = .bool true := (hsee 164 25 (by kernel_rfl) (by kernel_rfl)).2 (hwn.same (by kernel_rfl))
      exact wp_of_runL (rPick _ _ _ _ _ A' w (.tmp 164) (.const (Value.bool true)) (.tmp 169) _ _ q164 (by rw [if_pos rfl]; exact rfl)) ⟨_, rfl, rfl, LeavesE.plain (fun _ _ _ _ h hb => below_step h hb) (Below.refl _ _) (by decide)⟩
    · have q160 : A'.eval (.tmp 160) = .bool true := (hsee 160 21 (by kernel_rfl) (by kernel_rfl)).2 (want_free (by kernel_rfl))
      have q170 : A'.eval (.tmp 170) = .bool true := (hsee 170 31 (by kernel_rfl) (by kernel_rfl)).2 (fun g b hg => by cases hg; exact hk21 (hT.order 31 21 (by rw [(hsee 170 31 (by kernel_rfl) (by kernel_rfl)).1]; simp) (by kernel_rfl)))
      exact wp_of_runL (rPick _ _ _ _ _ A' w (.tmp 160) (.tmp 170) (.const (Value.bool false)) _ _ q160 (by rw [if_pos rfl]; exact q170)) ⟨_, rfl, rfl, LeavesE.plain (fun _ _ _ _ h hb => below_step h hb) (Below.refl _ _) (by decide)⟩
    · have q171 : A'.eval (.tmp 171) = .bool true := (hsee 171 32 (by kernel_rfl) (by kernel_rfl)).2 (want_free (by kernel_rfl))
      exact wp_of_runL (rAssign _ _ _ _ _ A' w (.tmp 171) _ q171) ⟨_, rfl, rfl, LeavesE.plain (fun _ _ _ _ h hb => below_step h hb) (Below.refl _ _) (by decide)⟩
  intro e wz hT hall
  obtain ⟨v0, e0⟩ := hall 0 (by decide)
  obtain ⟨v1, e1⟩ := hall 1 (by decide)
  obtain ⟨v2, e2⟩ := hall 2 (by decide)
  obtain ⟨v3, e3⟩ := hall 3 (by decide)
  obtain ⟨v4, e4⟩ := hall 4 (by decide)
  obtain ⟨v5, e5⟩ := hall 5 (by decide)
  obtain ⟨v6, e6⟩ := hall 6 (by decide)
  obtain ⟨v7, e7⟩ := hall 7 (by decide)
  obtain ⟨v8, e8⟩ := hall 8 (by decide)
  obtain ⟨v9, e9⟩ := hall 9 (by decide)
  obtain ⟨v10, e10⟩ := hall 10 (by decide)
  obtain ⟨v11, e11⟩ := hall 11 (by decide)
  obtain ⟨v12, e12⟩ := hall 12 (by decide)
  obtain ⟨v13, e13⟩ := hall 13 (by decide)
  obtain ⟨v14, e14⟩ := hall 14 (by decide)
  obtain ⟨v15, e15⟩ := hall 15 (by decide)
  obtain ⟨v16, e16⟩ := hall 16 (by decide)
  obtain ⟨v17, e17⟩ := hall 17 (by decide)
  obtain ⟨v18, e18⟩ := hall 18 (by decide)
  obtain ⟨v19, e19⟩ := hall 19 (by decide)
  obtain ⟨v20, e20⟩ := hall 20 (by decide)
  obtain ⟨v21, e21⟩ := hall 21 (by decide)
  obtain ⟨v22, e22⟩ := hall 22 (by decide)
  obtain ⟨v23, e23⟩ := hall 23 (by decide)
  obtain ⟨v24, e24⟩ := hall 24 (by decide)
  obtain ⟨v25, e25⟩ := hall 25 (by decide)
  obtain ⟨v26, e26⟩ := hall 26 (by decide)
  obtain ⟨v27, e27⟩ := hall 27 (by decide)
  obtain ⟨v28, e28⟩ := hall 28 (by decide)
  obtain ⟨v29, e29⟩ := hall 29 (by decide)
  obtain ⟨v30, e30⟩ := hall 30 (by decide)
  obtain ⟨v31, e31⟩ := hall 31 (by decide)
  obtain ⟨v32, e32⟩ := hall 32 (by decide)
  obtain ⟨v33, e33⟩ := hall 33 (by decide)
  have h33' : v33 = .bool true := hT.pure 33 _ e33 (want_free (by kernel_rfl))
  subst h33'
  have hF0 := hT.fact 0 rfl (by simp) (by simp) (by kernel_rfl)
  try simp only [Nat.reduceAdd] at hF0
  simp only [List.length_cons, List.length_nil, Nat.reduceAdd, fillTo, e0, e1, e2, e3, e4, e5, e6, e7, e8, e9, e10, e11, e12, e13, e14, e15, e16, e17, e18, e19, e20, e21, e22, e23, e24, e25, e26, e27, e28, e29, e30, e31, e32, e33, dstOf]
  clear e0 e1 e2 e3 e4 e5 e6 e7 e8 e9 e10 e11 e12 e13 e14 e15 e16 e17 e18 e19 e20 e21 e22 e23 e24 e25 e26 e27 e28 e29 e30 e31 e32 e33 hT hall
  have HF0 := Lib.hid (show Below w22.heap.size w22 wz from hF0)
  clear hF0
  go_simp
  go_wp2_with fail
  go_ret
  exact ⟨rfl, below_step HB22.out HF0.out⟩
end Go.Proofs.YtbnofoncapaabaaGreatDoor
