/- report.Valid, report.Choices. -/
import Derived.Test.YtfkejnnbfneieaaGreatDoorEvtValid
import Derived.Test.YtfkejnnbfneieaaGreatDoorEvtIs
import Derived.Test.YtfkejnnbfneieaaGreatDoorGrown
namespace Go.Proofs.YtfkejnnbfneieaaGreatDoor
open Go.RowKit
open Evt

namespace Evt
theorem any_next {α : Type} {l : List α} {q : α → Bool} {k : Nat} (hk : k < l.length) (h : (l.take k).any q = false) (hq : q l[k] = false) : (l.take (k + 1)).any q = false := by
  rw [← List.take_append_getElem hk, List.any_append, h, List.any_cons, hq]; rfl
theorem any_here {α : Type} {l : List α} {q : α → Bool} {k : Nat} (hk : k < l.length) (hq : q l[k] = true) : l.any q = true := List.any_eq_true.2 ⟨_, List.getElem_mem hk, hq⟩
theorem any_end {α : Type} {l : List α} {q : α → Bool} (h : (l.take l.length).any q = false) : l.any q = false := by rwa [List.take_length] at h
end Evt
set_option maxRecDepth 100000 in
set_option maxHeartbeats 8000000 in
theorem evIndex_any (ao : Option Addr) (l : List Ev) (c : Nat) (x : Ev) (hx : Sz x) (hl : l.length ≤ 9223372036854775807) (W : World) (hi : IsL 14 ElEv W ao l) :
    Calls Tryz.prog 54 #[.slice ao l.length c, .agg (evC x).toArray] W fun e w' => ∃ z : Int, e = .returned (.int .i64 z) ∧ decide (0 ≤ z) = l.any (fun y => evEq x y) ∧ Below W.heap.size W w' := by
  have HI := Lib.hid hi
  have HSx := Lib.hid hx
  have hgd := ev_guard
  have Hgd := Lib.hid hgd
  clear hi hx hgd
  obtain ⟨n, Hn⟩ : ∃ n, Hid (n = l.length) := ⟨_, Lib.hid rfl⟩
  rw [← Hn.out]
  rw [← Hn.out] at hl
  obtain ⟨A, HAe⟩ : ∃ A, Hid (A = l.any (fun y => evEq x y)) := ⟨_, Lib.hid rfl⟩
  rw [← HAe.out]
  obtain ⟨V, HV⟩ : ∃ w, Hid (w = W.alloc (.cells (evC x).toArray 50)) := ⟨_, Lib.hid rfl⟩
  obtain ⟨N, HN⟩ : ∃ N, Hid (N = W.heap.size) := ⟨_, Lib.hid rfl⟩
  have HB : Hid (Below W.heap.size W V) := Lib.hid (by rw [HV.out]; exact (Below.refl _ _).alloc (Nat.le_refl _) _)
  have HW : Hid (Whole V N 50 (evC x).toArray) := Lib.hid (by rw [HV.out, HN.out]; exact Whole.new _ _ _)
  obtain ⟨Q, HQ⟩ : ∃ Q : Ev → Bool, Hid (Q = fun y => evEq x y) := ⟨_, Lib.hid rfl⟩
  have HEq := Lib.hid (fun (y : Ev) (hy : Sz y) (w : World) => ev_eql HSx.out hy w)
  have HA : Hid (A = l.any Q) := Lib.hid (by rw [HAe.out, HQ.out])
  have HQe : Hid (∀ y, Q y = evEq x y) := Lib.hid (fun y => by rw [HQ.out])
  clear HQ HAe
  obtain ⟨x0, x1, x2, x3, x4, x5, x6, x7, x8, x9, xa, xb, xc, xd⟩ := x
  unfold evC at HV HEq ⊢
  dsimp only at HEq
  go_enter Tryz.func54, Tryz.ntmps54
  go_wp2_with fail
  rw [← HV.out, ← HN.out]
  go_loopw [8] (fun i wr => ∃ k : Nat, k ≤ n ∧ i = .int .i64 k ∧ Hid (Below V.heap.size V wr ∧ (l.take k).any Q = false)) (fun i _ => n - (intOf i).toNat)
  case atStart => exact ⟨0, Nat.zero_le _, by go_num, Lib.hid ⟨Below.refl _ _, rfl⟩⟩
  case round =>
    obtain ⟨k, hk, rfl, HR⟩ := hrel
    have HBr := Lib.hid (below_step HB.out HR.out.1)
    by_cases hkn : k < n
    · have hd : decide ((k : Int) < n) = true := decide_eq_true (by omega)
      have hb0 : (0 : Int) ≤ k := by omega
      have hb1 : (k : Int) < n := by omega
      have hkl : k < l.length := by rw [← Hn.out]; exact hkn
      obtain ⟨bk, off, cs, rfl, hbk, hrg, rfl, hsz⟩ := HI.out.at hkl
      obtain ⟨y, Hy⟩ : ∃ m, Hid (m = l[k]) := ⟨_, Lib.hid rfl⟩
      rw [← Hy.out] at hrg hsz
      have hrg := rangeB hrg hbk HBr.out
      have HWr := Lib.hid (whole_belowM HW.out HR.out.1)
      obtain ⟨b, Hb⟩ : ∃ b, Hid (b = Q y) := ⟨_, Lib.hid rfl⟩
      have heq := fun w => HEq.out y hsz w
      rw [← HQe.out y, ← Hb.out] at heq
      have hlt : bk < wr.heap.size := lt_of_cell (hrg 0 _ rfl)
      obtain ⟨y0, y1, y2, y3, y4, y5, y6, y7, y8, y9, ya, yb, yc, yd⟩ := y

      dsimp only at heq
      have gx0 : ∀ X : Grown wr, X.w.cell? ⟨N, 0, none⟩ = some (.int .i64 x0) := fun X => by rw [X.cell HWr.out.lt]; exact HWr.out.cell 0
      have gx1 : ∀ X : Grown wr, X.w.cell? ⟨N, 1, none⟩ = some (.int .i64 x1) := fun X => by rw [X.cell HWr.out.lt]; exact HWr.out.cell 1
      have gx2 : ∀ X : Grown wr, X.w.cell? ⟨N, 2, none⟩ = some (.string x2) := fun X => by rw [X.cell HWr.out.lt]; exact HWr.out.cell 2
      have gx3 : ∀ X : Grown wr, X.w.cell? ⟨N, 3, none⟩ = some (.string x3) := fun X => by rw [X.cell HWr.out.lt]; exact HWr.out.cell 3
      have gx4 : ∀ X : Grown wr, X.w.cell? ⟨N, 4, none⟩ = some (.string x4) := fun X => by rw [X.cell HWr.out.lt]; exact HWr.out.cell 4
      have gx5 : ∀ X : Grown wr, X.w.cell? ⟨N, 5, none⟩ = some (.string x5) := fun X => by rw [X.cell HWr.out.lt]; exact HWr.out.cell 5
      have gx6 : ∀ X : Grown wr, X.w.cell? ⟨N, 6, none⟩ = some (.string x6) := fun X => by rw [X.cell HWr.out.lt]; exact HWr.out.cell 6
      have gx7 : ∀ X : Grown wr, X.w.cell? ⟨N, 7, none⟩ = some (.string x7) := fun X => by rw [X.cell HWr.out.lt]; exact HWr.out.cell 7
      have gx8 : ∀ X : Grown wr, X.w.cell? ⟨N, 8, none⟩ = some (.int .i64 x8) := fun X => by rw [X.cell HWr.out.lt]; exact HWr.out.cell 8
      have gx9 : ∀ X : Grown wr, X.w.cell? ⟨N, 9, none⟩ = some (.int .i64 x9) := fun X => by rw [X.cell HWr.out.lt]; exact HWr.out.cell 9
      have gx10 : ∀ X : Grown wr, X.w.cell? ⟨N, 10, none⟩ = some (.int .i64 xa) := fun X => by rw [X.cell HWr.out.lt]; exact HWr.out.cell 10
      have gx11 : ∀ X : Grown wr, X.w.cell? ⟨N, 11, none⟩ = some (.int .i64 xb) := fun X => by rw [X.cell HWr.out.lt]; exact HWr.out.cell 11
      have gx12 : ∀ X : Grown wr, X.w.cell? ⟨N, 12, none⟩ = some (.int .i64 xc) := fun X => by rw [X.cell HWr.out.lt]; exact HWr.out.cell 12
      have gx13 : ∀ X : Grown wr, X.w.cell? ⟨N, 13, none⟩ = some (.int .i64 xd) := fun X => by rw [X.cell HWr.out.lt]; exact HWr.out.cell 13
      have gy0 : ∀ X : Grown wr, X.w.cell? ⟨bk, off + k * 14, none⟩ = some (.int .i64 y0) := fun X => by rw [X.cell hlt]; exact hrg 0 _ rfl
      have gy1 : ∀ X : Grown wr, X.w.cell? ⟨bk, off + k * 14 + 1, none⟩ = some (.int .i64 y1) := fun X => by rw [X.cell hlt]; exact hrg 1 _ rfl
      have gy2 : ∀ X : Grown wr, X.w.cell? ⟨bk, off + k * 14 + 2, none⟩ = some (.string y2) := fun X => by rw [X.cell hlt]; exact hrg 2 _ rfl
      have gy3 : ∀ X : Grown wr, X.w.cell? ⟨bk, off + k * 14 + 3, none⟩ = some (.string y3) := fun X => by rw [X.cell hlt]; exact hrg 3 _ rfl
      have gy4 : ∀ X : Grown wr, X.w.cell? ⟨bk, off + k * 14 + 4, none⟩ = some (.string y4) := fun X => by rw [X.cell hlt]; exact hrg 4 _ rfl
      have gy5 : ∀ X : Grown wr, X.w.cell? ⟨bk, off + k * 14 + 5, none⟩ = some (.string y5) := fun X => by rw [X.cell hlt]; exact hrg 5 _ rfl
      have gy6 : ∀ X : Grown wr, X.w.cell? ⟨bk, off + k * 14 + 6, none⟩ = some (.string y6) := fun X => by rw [X.cell hlt]; exact hrg 6 _ rfl
      have gy7 : ∀ X : Grown wr, X.w.cell? ⟨bk, off + k * 14 + 7, none⟩ = some (.string y7) := fun X => by rw [X.cell hlt]; exact hrg 7 _ rfl
      have gy8 : ∀ X : Grown wr, X.w.cell? ⟨bk, off + k * 14 + 8, none⟩ = some (.int .i64 y8) := fun X => by rw [X.cell hlt]; exact hrg 8 _ rfl
      have gy9 : ∀ X : Grown wr, X.w.cell? ⟨bk, off + k * 14 + 9, none⟩ = some (.int .i64 y9) := fun X => by rw [X.cell hlt]; exact hrg 9 _ rfl
      have gy10 : ∀ X : Grown wr, X.w.cell? ⟨bk, off + k * 14 + 10, none⟩ = some (.int .i64 ya) := fun X => by rw [X.cell hlt]; exact hrg 10 _ rfl
      have gy11 : ∀ X : Grown wr, X.w.cell? ⟨bk, off + k * 14 + 11, none⟩ = some (.int .i64 yb) := fun X => by rw [X.cell hlt]; exact hrg 11 _ rfl
      have gy12 : ∀ X : Grown wr, X.w.cell? ⟨bk, off + k * 14 + 12, none⟩ = some (.int .i64 yc) := fun X => by rw [X.cell hlt]; exact hrg 12 _ rfl
      have gy13 : ∀ X : Grown wr, X.w.cell? ⟨bk, off + k * 14 + 13, none⟩ = some (.int .i64 yd) := fun X => by rw [X.cell hlt]; exact hrg 13 _ rfl
      clear hrg hsz hbk hlt
      go_wp2_with fail
      have hgd := Hgd.out
      refine wp_region_grown (by kernel_rfl) (by kernel_rfl) ?_
      repeat (go_big_quiet_step (fail))
      refine wpQuiet_nil ?_
      rintro _ ⟨Z, rfl⟩
      cases b with
      | true =>
        have HT := Lib.hid (any_here (q := Q) hkl (by rw [← Hy.out]; exact Hb.out.symm))
        go_wp2_with fail
        go_ret
        exact ⟨_, rfl, by rw [HA.out, HT.out]; exact decide_eq_true (by omega), below_step HBr.out Z.below⟩
      | false =>
        have HT := Lib.hid (any_next (q := Q) hkl HR.out.2 (by rw [← Hy.out]; exact Hb.out.symm))
        go_wp2_with fail
        go_round
        case rel => exact ⟨k + 1, by omega, by go_num, Lib.hid ⟨below_step HR.out.1 Z.below, HT.out⟩⟩
        case measure => simp [intOf]; omega
    · obtain rfl : k = n := by omega
      have hd : decide ((k : Int) < k) = false := decide_eq_false (by omega)
      have HT := Lib.hid (any_end (l := l) (q := Q) (by have := HR.out.2; rwa [Hn.out] at this))
      go_wp2_with fail
      go_ret
      exact ⟨_, rfl, by rw [HA.out, HT.out]; rfl, HBr.out⟩
set_option maxRecDepth 100000 in
set_option maxHeartbeats 4000000 in
theorem evContains_any (ao : Option Addr) (l : List Ev) (c : Nat) (x : Ev) (hx : Sz x) (hl : l.length ≤ 9223372036854775807) (W : World) (hi : IsL 14 ElEv W ao l) :
    Calls Tryz.prog 31 #[.slice ao l.length c, .agg (evC x).toArray] W fun e w' => e = .returned (.bool (l.any (fun y => evEq x y))) ∧ Below W.heap.size W w' := by
  obtain ⟨V, HV⟩ : ∃ w, Hid (w = W.alloc (.cells (evC x).toArray 50)) := ⟨_, Lib.hid rfl⟩
  obtain ⟨N, HN⟩ : ∃ N, Hid (N = W.heap.size) := ⟨_, Lib.hid rfl⟩
  have HB : Hid (Below W.heap.size W V) := Lib.hid (by rw [HV.out]; exact (Below.refl _ _).alloc (Nat.le_refl _) _)
  have HW : Hid (Whole V N 50 (evC x).toArray) := Lib.hid (by rw [HV.out, HN.out]; exact Whole.new _ _ _)
  have HC := Lib.hid (evIndex_any ao l c x hx hl V (hi.below stEv HB.out))
  obtain ⟨n, Hn⟩ : ∃ n, Hid (n = l.length) := ⟨_, Lib.hid rfl⟩
  rw [← Hn.out] at HC ⊢
  obtain ⟨A, HA⟩ : ∃ A, Hid (A = l.any (fun y => evEq x y)) := ⟨_, Lib.hid rfl⟩
  rw [← HA.out] at HC ⊢
  have HSp := Lib.hid ev_size
  clear hi hx hl
  obtain ⟨x0, x1, x2, x3, x4, x5, x6, x7, x8, x9, xa, xb, xc, xd⟩ := x
  unfold evC at HV HC HW ⊢
  go_enter Tryz.func31, Tryz.ntmps31
  go_wp2_with fail
  rw [← HV.out]
  refine HC.out.mono ?_
  rintro e w' ⟨z, rfl, hz, hw⟩
  have HWw := Lib.hid (below_step HB.out hw)
  clear hw
  go_wp2_with fail
  go_ret
  exact ⟨rfl, HWw.out⟩

namespace Evt
noncomputable def okAt (l : List Ev) (i : Nat) (e : Ev) : Bool := valid e && !((l.take i).any (fun y => evEq e y))
noncomputable def okUp (l : List Ev) (k : Nat) : Bool := (List.range k).all fun i => match l[i]? with | none => true | some e => okAt l i e
theorem okUp_next {l : List Ev} {k : Nat} {e : Ev} (hq : l[k]? = some e) (h : okUp l k = true) : okUp l (k + 1) = okAt l k e := by
  unfold okUp at h ⊢
  rw [List.range_succ, List.all_append, h, List.all_cons, hq]
  simp
theorem okUp_no {l : List Ev} {k : Nat} (hk : k < l.length) (h : okUp l (k + 1) = false) : okUp l l.length = false := by
  unfold okUp at h ⊢
  rw [List.all_eq_false] at h ⊢
  obtain ⟨i, hi, hh⟩ := h
  exact ⟨i, List.mem_range.2 (by have := List.mem_range.1 hi; omega), hh⟩
noncomputable def validR (r : Rp) : Bool := !decide ((r.opts.length : Int) < 1) && (!decide ((4 : Int) < (r.opts.length : Int)) && okUp r.opts r.opts.length)
noncomputable def choices (r : Rp) : Int := if validR r then (if r.doubt then (r.opts.length : Int) + 1 else r.opts.length) else 0
theorem validR_len {r : Rp} (h : validR r = true) : 1 ≤ r.opts.length ∧ r.opts.length ≤ 4 := by
  unfold validR at h
  simp only [Bool.and_eq_true, Bool.not_eq_true', decide_eq_false_iff_not] at h
  omega
end Evt
set_option maxRecDepth 100000 in
set_option maxHeartbeats 8000000 in
theorem repValid_any (r : Rp) (oo : Option Addr) (oc : Nat) (hc1 : r.opts.length ≤ oc) (hc2 : oc ≤ 9223372036854775807) (W : World) (hi : IsL 14 ElEv W oo r.opts) :
    Calls Tryz.prog 15 #[.agg #[.slice oo r.opts.length oc, .bool r.doubt]] W fun e w' => e = .returned (.bool (validR r)) ∧ Below W.heap.size W w' := by
  obtain ⟨l, db⟩ := r
  dsimp only at hc1 hi ⊢
  obtain ⟨v, Hv⟩ : ∃ v, Hid (v = validR ⟨l, db⟩) := ⟨_, Lib.hid rfl⟩
  rw [← Hv.out]
  have HV0 : Hid (v = (!decide ((l.length : Int) < 1) && (!decide ((4 : Int) < (l.length : Int)) && okUp l l.length))) := Lib.hid (by rw [Hv.out]; rfl)
  have HI := Lib.hid hi
  have HSp := Lib.hid ev_size
  have HEv := Lib.hid evValid_any
  have HCt := Lib.hid (fun (k : Nat) (x : Ev) (hx : Sz x) (hk : k ≤ l.length) (w : World) (hw : Below W.heap.size W w) => evContains_any oo (l.take k) oc x hx (by rw [List.length_take]; omega) w ((hi.below stEv hw).take k))
  clear hi Hv
  obtain ⟨n, Hn⟩ : ∃ n, Hid (n = l.length) := ⟨_, Lib.hid rfl⟩
  rw [← Hn.out] at HV0 HCt hc1 ⊢
  obtain ⟨V, HV⟩ : ∃ w, Hid (w = W.alloc (.cells #[.slice oo n oc, .bool db] 31)) := ⟨_, Lib.hid rfl⟩
  obtain ⟨N, HN⟩ : ∃ N, Hid (N = W.heap.size) := ⟨_, Lib.hid rfl⟩
  have HB : Hid (Below W.heap.size W V) := Lib.hid (by rw [HV.out]; exact (Below.refl _ _).alloc (Nat.le_refl _) _)
  have HW : Hid (Whole V N 31 #[.slice oo n oc, .bool db]) := Lib.hid (by rw [HV.out, HN.out]; exact Whole.new _ _ _)
  obtain ⟨b1, d1⟩ : ∃ b, decide ((n : Int) < 1) = b := ⟨_, rfl⟩
  obtain ⟨b2, d2⟩ : ∃ b, decide ((4 : Int) < (n : Int)) = b := ⟨_, rfl⟩
  rw [d1, d2] at HV0
  go_enter Tryz.func15, Tryz.ntmps15
  cases b1 with
  | true =>
    obtain rfl : v = false := by rw [HV0.out]; rfl
    go_wp2_with fail
    rw [← HV.out]
    go_ret
    exact ⟨rfl, HB.out⟩
  | false =>
  cases b2 with
  | true =>
    obtain rfl : v = false := by rw [HV0.out]; rfl
    go_wp2_with fail
    rw [← HV.out]
    go_ret
    exact ⟨rfl, HB.out⟩
  | false =>
  have hn1 : 1 ≤ n := by have := of_decide_eq_false d1; omega
  have hn4 : n ≤ 4 := by have := of_decide_eq_false d2; omega
  have HV5 : Hid (v = okUp l n) := Lib.hid (by rw [HV0.out]; rfl)
  go_wp2_with fail
  rw [← HV.out, ← HN.out]
  clear d1 d2
  go_loopw [18] (fun i wr => ∃ k : Nat, k ≤ n ∧ i = .int .i64 k ∧ Hid (Below V.heap.size V wr ∧ okUp l k = true)) (fun i _ => n - (intOf i).toNat)
  case atStart => exact ⟨0, Nat.zero_le _, by go_num, Lib.hid ⟨Below.refl _ _, rfl⟩⟩
  case round =>
    obtain ⟨k, hk, rfl, HR⟩ := hrel
    have HBr := Lib.hid (below_step HB.out HR.out.1)
    by_cases hkn : k < n
    · have hd : decide ((k : Int) < n) = true := decide_eq_true (by omega)
      have hb0 : (0 : Int) ≤ k := by omega
      have hb1 : (k : Int) < n := by omega
      have hkl : k < l.length := by rw [← Hn.out]; exact hkn
      obtain ⟨bk, off, cs, rfl, hbk, hrg, rfl, hsz⟩ := HI.out.at hkl
      obtain ⟨y, Hy⟩ : ∃ m, Hid (m = l[k]) := ⟨_, Lib.hid rfl⟩
      rw [← Hy.out] at hrg hsz
      have HRg := Lib.hid (rangeB hrg hbk HBr.out)
      have HOne := Lib.hid (evC_one y)
      have HSy := Lib.hid hsz
      obtain ⟨U, HU⟩ : ∃ w, Hid (w = wr.alloc (.cells (evC y).toArray 50)) := ⟨_, Lib.hid rfl⟩
      obtain ⟨g, Hg⟩ : ∃ g, Hid (g = wr.heap.size) := ⟨_, Lib.hid rfl⟩
      have HWU : Hid (Whole U g 50 (evC y).toArray) := Lib.hid (by rw [HU.out, Hg.out]; exact Whole.new _ _ _)
      have HBU : Hid (Below wr.heap.size wr U) := Lib.hid (by rw [HU.out]; exact (Below.refl _ _).alloc (Nat.le_refl _) _)
      have HBVU := Lib.hid (below_step HR.out.1 HBU.out)
      have HNo : Hid (∀ Z : Grown U, Below W.heap.size W Z.w) := Lib.hid (fun Z => below_step HB.out (below_step HBVU.out Z.below))
      clear hrg hsz hbk
      go_wp2_with (first
        | (with_reducible show wpList _ _ _ (Oper.mk _ (Op.load 50 _) _ _ _ _ :: _) _ _; refine wpList_load_mid rfl _ _ rfl bk (off + k * 14) rfl _ _ HRg.out Tryz.underlying50 rfl (HSp.out.trans rfl) ?_)
        | (with_reducible show wpList _ _ _ (Oper.mk _ (Op.store 50 _ _) _ _ _ _ :: _) _ _; refine Hid.out ?_))
      refine Lib.hid ?_
      refine wpList_store_new rfl _ _ _ rfl _ (evC y).toArray rfl rfl (HSp.out.trans rfl) rfl HOne.out ?_
      rw [← HU.out, ← Hg.out]
      go_simp
      go_wp2_with fail
      obtain ⟨x1, Hx1⟩ : ∃ b, Hid (b = Evt.valid y) := ⟨_, Lib.hid rfl⟩
      obtain ⟨x2, Hx2⟩ : ∃ b, Hid (b = (l.take k).any (fun z => evEq y z)) := ⟨_, Lib.hid rfl⟩
      have HOk : Hid (okAt l k y = (x1 && !x2)) := Lib.hid (by rw [Hx1.out, Hx2.out]; rfl)
      have HGet : Hid (l[k]? = some y) := Lib.hid (by rw [Hy.out]; exact List.getElem?_eq_getElem hkl)
      have HNoV : Hid (okAt l k y = false → v = false) := Lib.hid (fun h => by rw [HV5.out, Hn.out]; exact okUp_no hkl (by rw [okUp_next HGet.out HR.out.2]; exact h))
      have HC1 := Lib.hid (fun Z : Grown U => grown_of (x := Z) (HEv.out y HSy.out Z.w))
      have HC2 := Lib.hid (fun Z : Grown U => grown_of (x := Z) (HCt.out k y HSy.out hk Z.w (HNo.out Z)))
      rw [← Hx1.out] at HC1
      rw [← Hx2.out, show (l.take k).length = k by rw [List.length_take]; omega] at HC2
      have gA : ∀ Z : Grown U, Z.w.cell? ⟨N, 0, none⟩ = some (.slice (some ⟨bk, off, none⟩) n oc) := fun Z => (cellB (below_step HBVU.out Z.below) HW.out.lt).trans (HW.out.cell 0)
      obtain ⟨y0, y1, y2, y3, y4, y5, y6, y7, y8, y9, ya, yb, yc, yd⟩ := y
      unfold evC at HC1 HC2
      dsimp only at HC1 HC2
      have gy0 : ∀ X : Grown U, X.w.cell? ⟨g, 0, none⟩ = some (.int .i64 y0) := fun X => by rw [X.cell HWU.out.lt]; exact HWU.out.cell 0
      have gy1 : ∀ X : Grown U, X.w.cell? ⟨g, 1, none⟩ = some (.int .i64 y1) := fun X => by rw [X.cell HWU.out.lt]; exact HWU.out.cell 1
      have gy2 : ∀ X : Grown U, X.w.cell? ⟨g, 2, none⟩ = some (.string y2) := fun X => by rw [X.cell HWU.out.lt]; exact HWU.out.cell 2
      have gy3 : ∀ X : Grown U, X.w.cell? ⟨g, 3, none⟩ = some (.string y3) := fun X => by rw [X.cell HWU.out.lt]; exact HWU.out.cell 3
      have gy4 : ∀ X : Grown U, X.w.cell? ⟨g, 4, none⟩ = some (.string y4) := fun X => by rw [X.cell HWU.out.lt]; exact HWU.out.cell 4
      have gy5 : ∀ X : Grown U, X.w.cell? ⟨g, 5, none⟩ = some (.string y5) := fun X => by rw [X.cell HWU.out.lt]; exact HWU.out.cell 5
      have gy6 : ∀ X : Grown U, X.w.cell? ⟨g, 6, none⟩ = some (.string y6) := fun X => by rw [X.cell HWU.out.lt]; exact HWU.out.cell 6
      have gy7 : ∀ X : Grown U, X.w.cell? ⟨g, 7, none⟩ = some (.string y7) := fun X => by rw [X.cell HWU.out.lt]; exact HWU.out.cell 7
      have gy8 : ∀ X : Grown U, X.w.cell? ⟨g, 8, none⟩ = some (.int .i64 y8) := fun X => by rw [X.cell HWU.out.lt]; exact HWU.out.cell 8
      have gy9 : ∀ X : Grown U, X.w.cell? ⟨g, 9, none⟩ = some (.int .i64 y9) := fun X => by rw [X.cell HWU.out.lt]; exact HWU.out.cell 9
      have gy10 : ∀ X : Grown U, X.w.cell? ⟨g, 10, none⟩ = some (.int .i64 ya) := fun X => by rw [X.cell HWU.out.lt]; exact HWU.out.cell 10
      have gy11 : ∀ X : Grown U, X.w.cell? ⟨g, 11, none⟩ = some (.int .i64 yb) := fun X => by rw [X.cell HWU.out.lt]; exact HWU.out.cell 11
      have gy12 : ∀ X : Grown U, X.w.cell? ⟨g, 12, none⟩ = some (.int .i64 yc) := fun X => by rw [X.cell HWU.out.lt]; exact HWU.out.cell 12
      have gy13 : ∀ X : Grown U, X.w.cell? ⟨g, 13, none⟩ = some (.int .i64 yd) := fun X => by rw [X.cell HWU.out.lt]; exact HWU.out.cell 13
      cases x1 with
      | false =>
        obtain rfl : v = false := HNoV.out (by rw [HOk.out]; rfl)
        refine wp_region_grown (by kernel_rfl) (by kernel_rfl) ?_
        repeat (go_big_quiet_step (exact HC1.out _))
        refine wpQuiet_nil ?_
        rintro _ ⟨Z, rfl⟩
        go_wp2_with fail
        go_ret
        exact ⟨rfl, HNo.out Z⟩
      | true =>
      cases x2 with
      | true =>
        obtain rfl : v = false := HNoV.out (by rw [HOk.out]; rfl)
        refine wp_region_grown (by kernel_rfl) (by kernel_rfl) ?_
        iterate 4 (go_big_quiet_step (exact HC1.out _))
        repeat (go_big_quiet_step (exact HC2.out _))
        refine wpQuiet_nil ?_
        rintro _ ⟨Z, rfl⟩
        go_wp2_with fail
        go_ret
        exact ⟨rfl, HNo.out Z⟩
      | false =>
        have HYes : Hid (okUp l (k + 1) = true) := Lib.hid (by rw [okUp_next HGet.out HR.out.2, HOk.out]; rfl)
        refine wp_region_grown (by kernel_rfl) (by kernel_rfl) ?_
        iterate 4 (go_big_quiet_step (exact HC1.out _))
        repeat (go_big_quiet_step (exact HC2.out _))
        refine wpQuiet_nil ?_
        rintro _ ⟨Z, rfl⟩
        go_wp2_with fail
        go_round
        case rel => exact ⟨k + 1, by omega, by go_num, Lib.hid ⟨below_step HBVU.out Z.below, HYes.out⟩⟩
        case measure => simp [intOf]; omega
    · obtain rfl : k = n := by omega
      have hd : decide ((k : Int) < k) = false := decide_eq_false (by omega)
      obtain rfl : v = true := by rw [HV5.out]; exact HR.out.2
      go_wp2_with fail
      go_ret
      exact ⟨rfl, HBr.out⟩
set_option maxRecDepth 100000 in
set_option maxHeartbeats 4000000 in
theorem choices_any (r : Rp) (oo : Option Addr) (oc : Nat) (hc1 : r.opts.length ≤ oc) (hc2 : oc ≤ 9223372036854775807) (W : World) (hi : IsL 14 ElEv W oo r.opts) :
    Calls Tryz.prog 17 #[.agg #[.slice oo r.opts.length oc, .bool r.doubt]] W fun e w' => e = .returned (.int .i64 (choices r)) ∧ Below W.heap.size W w' := by
  obtain ⟨l, db⟩ := r
  dsimp only at hc1 hi ⊢
  obtain ⟨V, HV⟩ : ∃ w, Hid (w = W.alloc (.cells #[.slice oo l.length oc, .bool db] 31)) := ⟨_, Lib.hid rfl⟩
  obtain ⟨N, HN⟩ : ∃ N, Hid (N = W.heap.size) := ⟨_, Lib.hid rfl⟩
  have HB : Hid (Below W.heap.size W V) := Lib.hid (by rw [HV.out]; exact (Below.refl _ _).alloc (Nat.le_refl _) _)
  have HW : Hid (Whole V N 31 #[.slice oo l.length oc, .bool db]) := Lib.hid (by rw [HV.out, HN.out]; exact Whole.new _ _ _)
  have HC := Lib.hid (repValid_any ⟨l, db⟩ oo oc hc1 hc2 V (hi.below stEv HB.out))
  obtain ⟨v, Hv⟩ : ∃ v, Hid (v = validR ⟨l, db⟩) := ⟨_, Lib.hid rfl⟩
  have HL : Hid (v = true → l.length ≤ 4) := Lib.hid (fun h => (validR_len (r := ⟨l, db⟩) (by rw [← Hv.out]; exact h)).2)
  obtain ⟨z, Hz⟩ : ∃ z, Hid (z = choices ⟨l, db⟩) := ⟨_, Lib.hid rfl⟩
  rw [← Hz.out]
  rw [← Hv.out] at HC
  have HZ : Hid (z = if v then (if db then (l.length : Int) + 1 else l.length) else 0) := Lib.hid (by rw [Hz.out, Hv.out]; rfl)
  obtain ⟨n, Hn⟩ : ∃ n, Hid (n = l.length) := ⟨_, Lib.hid rfl⟩
  dsimp only at HC
  rw [← Hn.out] at HC HL HZ HV HW ⊢
  clear hi hc1 Hv Hz
  go_enter Tryz.func17, Tryz.ntmps17
  go_wp2_with fail
  rw [← HV.out, ← HN.out]
  refine HC.out.mono ?_
  rintro e w1 ⟨rfl, hb⟩
  have HB1 := Lib.hid (below_step HB.out hb)
  have c0 : w1.cell? ⟨N, 0, none⟩ = some (.slice oo n oc) := (whole_belowM HW.out hb).cell 0
  have c1 : w1.cell? ⟨N, 1, none⟩ = some (.bool db) := (whole_belowM HW.out hb).cell 1
  clear hb
  cases v with
  | false =>
    obtain rfl : z = 0 := by rw [HZ.out]; rfl
    go_wp2_with fail
    go_ret
    exact ⟨rfl, HB1.out⟩
  | true =>
  have hn4 := HL.out rfl
  cases db with
  | true =>
    obtain rfl : z = (n : Int) + 1 := by rw [HZ.out]; rfl
    go_wp2_with fail
    go_ret
    exact ⟨rfl, HB1.out⟩
  | false =>
    obtain rfl : z = (n : Int) := by rw [HZ.out]; rfl
    go_wp2_with fail
    go_ret
    exact ⟨rfl, HB1.out⟩
end Go.Proofs.YtfkejnnbfneieaaGreatDoor
