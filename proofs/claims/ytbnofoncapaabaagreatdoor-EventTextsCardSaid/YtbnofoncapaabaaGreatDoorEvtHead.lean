/- The laws' head. -/
import Derived.Test.YtbnofoncapaabaaGreatDoorEvtParse
import Derived.Test.YtbnofoncapaabaaGreatDoorEvtEx
import Derived.Test.YtbnofoncapaabaaGreatDoorEvtStrs
import Derived.Test.YtbnofoncapaabaaGreatDoorEvEq
namespace Go.Proofs.YtbnofoncapaabaaGreatDoor
open Go.RowKit
open Evt

section
variable (d : Option Tmp) (t : TypeId) (pos : String) (af : Array Edge) (g : Option (Nat × Bool)) (A : Act) (w : World)
theorem run_bld1 : (execOp A.eval ⟨d, .build 27 #[(0, .const (.int .i64 1)), (2, .const (.string ⟨#[97, 49]⟩)), (3, .const (.string ⟨#[97, 120, 108, 101]⟩))], t, pos, af, g⟩).run Tryz.prog w = .ok (.value (.agg (evC y1).toArray)) w := by
  have e : (evC y1).toArray = #[.int .i64 1, .int .i64 0, .string ⟨#[97, 49]⟩, .string ⟨#[97, 120, 108, 101]⟩, .string ⟨#[]⟩, .string ⟨#[]⟩, .string ⟨#[]⟩, .string ⟨#[]⟩, .int .i64 0, .int .i64 0, .int .i64 0, .int .i64 0, .int .i64 0, .int .i64 0] := rfl
  rw [e]
  unfold execOp
  simp only [List.map_toArray, List.map_cons, List.map_nil]
  go_simp
theorem run_bld2 (hx : A.eval (.tmp 51) = .agg #[.int .i64 10, .int .i64 12, .int .i64 3, .int .i64 3, .int .i64 0, .int .i64 5]) : (execOp A.eval ⟨d, .build 27 #[(0, .const (.int .i64 4)), (1, .const (.int .i64 9)), (2, .const (.string ⟨#[118, 49]⟩)), (8, .tmp 51)], t, pos, af, g⟩).run Tryz.prog w = .ok (.value (.agg (evC y2).toArray)) w := by
  have e : (evC y2).toArray = #[.int .i64 4, .int .i64 9, .string ⟨#[118, 49]⟩, .string ⟨#[]⟩, .string ⟨#[]⟩, .string ⟨#[]⟩, .string ⟨#[]⟩, .string ⟨#[]⟩, .int .i64 10, .int .i64 12, .int .i64 3, .int .i64 3, .int .i64 0, .int .i64 5] := rfl
  rw [e]
  unfold execOp
  simp only [hx, List.map_toArray, List.map_cons, List.map_nil]
  go_simp
theorem run_bld3 : (execOp A.eval ⟨d, .build 27 #[(0, .const (.int .i64 6)), (1, .const (.int .i64 9)), (2, .const (.string ⟨#[97, 49]⟩)), (6, .const (.string ⟨#[98, 97, 116, 99, 104]⟩)), (7, .const (.string ⟨#[55, 98]⟩))], t, pos, af, g⟩).run Tryz.prog w = .ok (.value (.agg (evC y3).toArray)) w := by
  have e : (evC y3).toArray = #[.int .i64 6, .int .i64 9, .string ⟨#[97, 49]⟩, .string ⟨#[]⟩, .string ⟨#[]⟩, .string ⟨#[]⟩, .string ⟨#[98, 97, 116, 99, 104]⟩, .string ⟨#[55, 98]⟩, .int .i64 0, .int .i64 0, .int .i64 0, .int .i64 0, .int .i64 0, .int .i64 0] := rfl
  rw [e]
  unfold execOp
  simp only [List.map_toArray, List.map_cons, List.map_nil]
  go_simp
theorem run_bld4 : (execOp A.eval ⟨d, .build 27 #[(0, .const (.int .i64 2)), (2, .const (.string ⟨#[98]⟩)), (4, .const (.string ⟨#[97]⟩)), (5, .const (.string ⟨#[120]⟩))], t, pos, af, g⟩).run Tryz.prog w = .ok (.value (.agg (evC y4).toArray)) w := by
  have e : (evC y4).toArray = #[.int .i64 2, .int .i64 0, .string ⟨#[98]⟩, .string ⟨#[]⟩, .string ⟨#[97]⟩, .string ⟨#[120]⟩, .string ⟨#[]⟩, .string ⟨#[]⟩, .int .i64 0, .int .i64 0, .int .i64 0, .int .i64 0, .int .i64 0, .int .i64 0] := rfl
  rw [e]
  unfold execOp
  simp only [List.map_toArray, List.map_cons, List.map_nil]
  go_simp
end
theorem use_sizeH : (Tryz.prog.info? 25).map (·.size) = some 6 := by kernel_rfl
set_option maxRecDepth 100000 in
set_option maxHeartbeats 8000000 in
theorem head09_any (W : World) (hT : WTab W) (ht : Tab W) (hE : Errs W) : Calls Tryz.prog 7 #[] W fun e w' => e = .returned (.bool true) ∧ Below W.heap.size W w' := by
  have HX1 : Hid (∀ w, Below W.heap.size W w → Calls Tryz.prog 11 #[.string x1] w fun e w' => e = .returned (.tuple #[.agg (evC y1).toArray, .int .i64 0]) ∧ Below w.heap.size w w') := Lib.hid (fun w hw => by
    have h := parse_any x1 (by decide) w (hT.below hw) (ht.below hw) (hE.below hw)
    unfold ParsePost at h
    rw [p1] at h
    exact h)
  have HX2 : Hid (∀ w, Below W.heap.size W w → Calls Tryz.prog 11 #[.string x2] w fun e w' => e = .returned (.tuple #[.agg (evC y2).toArray, .int .i64 0]) ∧ Below w.heap.size w w') := Lib.hid (fun w hw => by
    have h := parse_any x2 (by decide) w (hT.below hw) (ht.below hw) (hE.below hw)
    unfold ParsePost at h
    rw [p2] at h
    exact h)
  have HX3 : Hid (∀ w, Below W.heap.size W w → Calls Tryz.prog 11 #[.string x3] w fun e w' => e = .returned (.tuple #[.agg (evC y3).toArray, .int .i64 0]) ∧ Below w.heap.size w w') := Lib.hid (fun w hw => by
    have h := parse_any x3 (by decide) w (hT.below hw) (ht.below hw) (hE.below hw)
    unfold ParsePost at h
    rw [p3] at h
    exact h)
  have HX4 : Hid (∀ w, Below W.heap.size W w → Calls Tryz.prog 11 #[.string x4] w fun e w' => e = .returned (.tuple #[.agg (evC zero).toArray, .int .i64 8]) ∧ Below w.heap.size w w') := Lib.hid (fun w hw => by
    have h := parse_any x4 (by decide) w (hT.below hw) (ht.below hw) (hE.below hw)
    unfold ParsePost at h
    rw [p4] at h
    exact h)
  have HX5 : Hid (∀ w, Below W.heap.size W w → Calls Tryz.prog 11 #[.string x5] w fun e w' => e = .returned (.tuple #[.agg (evC zero).toArray, .int .i64 8]) ∧ Below w.heap.size w w') := Lib.hid (fun w hw => by
    have h := parse_any x5 (by decide) w (hT.below hw) (ht.below hw) (hE.below hw)
    unfold ParsePost at h
    rw [p5] at h
    exact h)
  have HSp := Lib.hid ev_size
  have HSu := Lib.hid use_sizeH
  have HB0 := Lib.hid (Below.refl W.heap.size W)
  clear hT ht hE
  go_enter Tryz.func7, Tryz.ntmps7
  go_wp2_with fail
  refine (HX1.out W HB0.out).mono ?_
  rintro e u1 ⟨rfl, hb⟩
  obtain ⟨g1, Hg1⟩ : ∃ g, Hid (g = u1.heap.size) := ⟨_, Lib.hid rfl⟩
  have HBu := Lib.hid (below_step HB0.out hb)
  have HSu1 := Lib.hid hb
  clear hb
  go_wp2_with (first
    | (with_reducible show wpList _ _ _ (Oper.mk _ (Op.store 27 _ _) _ _ _ _ :: _) _ _; refine Hid.out ?_))
  refine Lib.hid ?_
  refine wpList_store_new rfl _ _ _ rfl _ (evC y1).toArray rfl rfl (HSp.out.trans rfl) rfl (evC_one _) ?_
  obtain ⟨w1, Hw1⟩ : ∃ w, Hid (w = u1.alloc (.cells (evC y1).toArray 27)) := ⟨_, Lib.hid rfl⟩
  rw [← Hw1.out, ← Hg1.out]
  have HB1 : Hid (Below W.heap.size W w1) := Lib.hid (by rw [Hw1.out]; exact below_alloc HBu.out _)
  have HS1 : Hid (Below W.heap.size W w1) := Lib.hid (by rw [Hw1.out]; exact below_alloc HSu1.out _)
  have HW1 : Hid (Whole w1 g1 27 (evC y1).toArray) := Lib.hid (by rw [Hw1.out, Hg1.out]; exact Whole.new _ _ _)
  clear HBu
  go_wp2_with fail
  refine (HX2.out w1 HB1.out).mono ?_
  rintro e u2 ⟨rfl, hb⟩
  obtain ⟨g2, Hg2⟩ : ∃ g, Hid (g = u2.heap.size) := ⟨_, Lib.hid rfl⟩
  have HBu := Lib.hid (below_step HB1.out hb)
  have HSu2 := Lib.hid hb
  clear hb
  go_wp2_with (first
    | (with_reducible show wpList _ _ _ (Oper.mk _ (Op.store 27 _ _) _ _ _ _ :: _) _ _; refine Hid.out ?_))
  refine Lib.hid ?_
  refine wpList_store_new rfl _ _ _ rfl _ (evC y2).toArray rfl rfl (HSp.out.trans rfl) rfl (evC_one _) ?_
  obtain ⟨w2, Hw2⟩ : ∃ w, Hid (w = u2.alloc (.cells (evC y2).toArray 27)) := ⟨_, Lib.hid rfl⟩
  rw [← Hw2.out, ← Hg2.out]
  have HB2 : Hid (Below W.heap.size W w2) := Lib.hid (by rw [Hw2.out]; exact below_alloc HBu.out _)
  have HS2 : Hid (Below w1.heap.size w1 w2) := Lib.hid (by rw [Hw2.out]; exact below_alloc HSu2.out _)
  have HW2 : Hid (Whole w2 g2 27 (evC y2).toArray) := Lib.hid (by rw [Hw2.out, Hg2.out]; exact Whole.new _ _ _)
  clear HBu
  go_wp2_with fail
  refine (HX3.out w2 HB2.out).mono ?_
  rintro e u3 ⟨rfl, hb⟩
  obtain ⟨g3, Hg3⟩ : ∃ g, Hid (g = u3.heap.size) := ⟨_, Lib.hid rfl⟩
  have HBu := Lib.hid (below_step HB2.out hb)
  have HSu3 := Lib.hid hb
  clear hb
  go_wp2_with (first
    | (with_reducible show wpList _ _ _ (Oper.mk _ (Op.store 27 _ _) _ _ _ _ :: _) _ _; refine Hid.out ?_))
  refine Lib.hid ?_
  refine wpList_store_new rfl _ _ _ rfl _ (evC y3).toArray rfl rfl (HSp.out.trans rfl) rfl (evC_one _) ?_
  obtain ⟨w3, Hw3⟩ : ∃ w, Hid (w = u3.alloc (.cells (evC y3).toArray 27)) := ⟨_, Lib.hid rfl⟩
  rw [← Hw3.out, ← Hg3.out]
  have HB3 : Hid (Below W.heap.size W w3) := Lib.hid (by rw [Hw3.out]; exact below_alloc HBu.out _)
  have HS3 : Hid (Below w2.heap.size w2 w3) := Lib.hid (by rw [Hw3.out]; exact below_alloc HSu3.out _)
  have HW3 : Hid (Whole w3 g3 27 (evC y3).toArray) := Lib.hid (by rw [Hw3.out, Hg3.out]; exact Whole.new _ _ _)
  clear HBu
  go_wp2_with fail
  refine (HX4.out w3 HB3.out).mono ?_
  rintro e u4 ⟨rfl, hb⟩
  obtain ⟨g4, Hg4⟩ : ∃ g, Hid (g = u4.heap.size) := ⟨_, Lib.hid rfl⟩
  have HBu := Lib.hid (below_step HB3.out hb)
  have HSu4 := Lib.hid hb
  clear hb
  go_wp2_with (first
    | (with_reducible show wpList _ _ _ (Oper.mk _ (Op.store 27 _ _) _ _ _ _ :: _) _ _; refine Hid.out ?_))
  refine Lib.hid ?_
  refine wpList_store_new rfl _ _ _ rfl _ (evC zero).toArray rfl rfl (HSp.out.trans rfl) rfl (evC_one _) ?_
  obtain ⟨w4, Hw4⟩ : ∃ w, Hid (w = u4.alloc (.cells (evC zero).toArray 27)) := ⟨_, Lib.hid rfl⟩
  rw [← Hw4.out, ← Hg4.out]
  have HB4 : Hid (Below W.heap.size W w4) := Lib.hid (by rw [Hw4.out]; exact below_alloc HBu.out _)
  have HS4 : Hid (Below w3.heap.size w3 w4) := Lib.hid (by rw [Hw4.out]; exact below_alloc HSu4.out _)
  have HW4 : Hid (Whole w4 g4 27 (evC zero).toArray) := Lib.hid (by rw [Hw4.out, Hg4.out]; exact Whole.new _ _ _)
  clear HBu
  go_wp2_with fail
  refine (HX5.out w4 HB4.out).mono ?_
  rintro e u5 ⟨rfl, hb⟩
  obtain ⟨g5, Hg5⟩ : ∃ g, Hid (g = u5.heap.size) := ⟨_, Lib.hid rfl⟩
  have HBu := Lib.hid (below_step HB4.out hb)
  have HSu5 := Lib.hid hb
  clear hb
  go_wp2_with (first
    | (with_reducible show wpList _ _ _ (Oper.mk _ (Op.store 27 _ _) _ _ _ _ :: _) _ _; refine Hid.out ?_))
  refine Lib.hid ?_
  refine wpList_store_new rfl _ _ _ rfl _ (evC zero).toArray rfl rfl (HSp.out.trans rfl) rfl (evC_one _) ?_
  obtain ⟨w5, Hw5⟩ : ∃ w, Hid (w = u5.alloc (.cells (evC zero).toArray 27)) := ⟨_, Lib.hid rfl⟩
  rw [← Hw5.out, ← Hg5.out]
  have HB5 : Hid (Below W.heap.size W w5) := Lib.hid (by rw [Hw5.out]; exact below_alloc HBu.out _)
  have HS5 : Hid (Below w4.heap.size w4 w5) := Lib.hid (by rw [Hw5.out]; exact below_alloc HSu5.out _)
  have HW5 : Hid (Whole w5 g5 27 (evC zero).toArray) := Lib.hid (by rw [Hw5.out, Hg5.out]; exact Whole.new _ _ _)
  clear HBu
  go_wp2_with (first
    | (with_reducible show wpList _ _ _ (Oper.mk _ (Op.store 25 _ _) _ _ _ _ :: _) _ _; refine Hid.out ?_))
  refine Lib.hid ?_
  refine wpList_store_new rfl _ _ _ rfl _ ([.int .i64 10, .int .i64 12, .int .i64 3, .int .i64 3, .int .i64 0, .int .i64 5] : List Value).toArray rfl rfl (HSu.out.trans rfl) rfl (by simp [Value.oneCell']) ?_
  obtain ⟨wU, HwU⟩ : ∃ w, Hid (w = w5.alloc (.cells ([.int .i64 10, .int .i64 12, .int .i64 3, .int .i64 3, .int .i64 0, .int .i64 5] : List Value).toArray 25)) := ⟨_, Lib.hid rfl⟩
  obtain ⟨gU, HgU⟩ : ∃ g, Hid (g = w5.heap.size) := ⟨_, Lib.hid rfl⟩
  rw [← HwU.out, ← HgU.out]
  have hb5 : Below w5.heap.size w5 wU := by rw [HwU.out]; exact (Below.refl _ _).alloc (Nat.le_refl _) _
  have HB6 : Hid (Below W.heap.size W wU) := Lib.hid (below_step HB5.out hb5)
  have HWU : Hid (Whole wU gU 25 ([.int .i64 10, .int .i64 12, .int .i64 3, .int .i64 3, .int .i64 0, .int .i64 5] : List Value).toArray) := Lib.hid (by rw [HwU.out, HgU.out]; exact Whole.new _ _ _)
  have HL1 : Hid (Whole wU g1 27 (evC y1).toArray) := Lib.hid (by
    have h := whole_belowM (whole_belowM (whole_belowM (whole_belowM HW1.out HS2.out) HS3.out) HS4.out) HS5.out
    exact whole_belowM h hb5)
  have HL2 : Hid (Whole wU g2 27 (evC y2).toArray) := Lib.hid (by
    have h := whole_belowM (whole_belowM (whole_belowM HW2.out HS3.out) HS4.out) HS5.out
    exact whole_belowM h hb5)
  have HL3 : Hid (Whole wU g3 27 (evC y3).toArray) := Lib.hid (by
    have h := whole_belowM (whole_belowM HW3.out HS4.out) HS5.out
    exact whole_belowM h hb5)
  clear hb5
  go_wp2_with (first
    | (with_reducible show wpList _ _ _ (Oper.mk _ (Op.load 27 _) _ _ _ _ :: _) _ _; refine Hid.out ?_))
  refine Lib.hid ?_
  refine wpList_load_yes rfl _ _ rfl g1 0 rfl _ _ HL1.out.range Tryz.underlying27 rfl (HSp.out.trans rfl) ?_
  refine wpList_run_yes rfl (run_bld1 _ _ _ _ _ _ _) ?_
  refine wpList_run_yes rfl (run_eqlEvG _ _ _ _ _ _ _ _ _ y1 sz_y1 rfl rfl) ?_
  go_wp2_with (first
    | (with_reducible show wpList _ _ _ (Oper.mk _ (Op.load 27 _) _ _ _ _ :: _) _ _; refine Hid.out ?_))
  refine Lib.hid ?_
  refine wpList_load_yes rfl _ _ rfl g2 0 rfl _ _ HL2.out.range Tryz.underlying27 rfl (HSp.out.trans rfl) ?_
  refine wpList_load_yes rfl _ _ rfl gU 0 rfl _ _ HWU.out.range Tryz.underlying25 rfl (HSu.out.trans rfl) ?_
  refine wpList_run_yes rfl (run_bld2 _ _ _ _ _ _ _ rfl) ?_
  refine wpList_run_yes rfl (run_eqlEvG _ _ _ _ _ _ _ _ _ y2 sz_y2 rfl rfl) ?_
  go_wp2_with (first
    | (with_reducible show wpList _ _ _ (Oper.mk _ (Op.build 27 _) _ _ _ _ :: _) _ _; refine Hid.out ?_))
  refine Lib.hid ?_
  refine wpList_run_yes rfl (run_bld4 _ _ _ _ _ _ _) ?_
  have HNm := Lib.hid (evNames_any y4 sz_y4 wU)
  rw [n4] at HNm
  go_wp2_with fail
  refine HNm.out.mono ?_
  rintro e w7 ⟨v, rfl, ho, hb⟩
  have HS7 := Lib.hid (IsS.owns ho)
  have HB7 := Lib.hid (below_step HB6.out hb)
  have HL7 := Lib.hid (whole_belowM HL3.out hb)
  clear ho hb
  go_wp2_with (first
    | (with_reducible show wpList _ _ _ (Oper.mk _ (Op.load 27 _) _ _ _ _ :: _) _ _; refine Hid.out ?_))
  refine Lib.hid ?_
  refine wpList_load_yes rfl _ _ rfl g3 0 rfl _ _ HL7.out.range Tryz.underlying27 rfl (HSp.out.trans rfl) ?_
  refine wpList_run_yes rfl (run_bld3 _ _ _ _ _ _ _) ?_
  refine wpList_run_yes rfl (run_eqlEvG _ _ _ _ _ _ _ _ _ y3 sz_y3 rfl rfl) ?_
  go_wp2_with fail
  have hbA : Below w7.heap.size w7 (w7.alloc (.cells #[.string ⟨#[97]⟩, .string ⟨#[98]⟩] 9)) := (Below.refl _ _).alloc (Nat.le_refl _) _
  have hwA : Whole (w7.alloc (.cells #[.string ⟨#[97]⟩, .string ⟨#[98]⟩] 9)) w7.heap.size 9 #[.string ⟨#[97]⟩, .string ⟨#[98]⟩] := Whole.new _ _ _
  refine (strs09_any [[97], [98]] [[97], [98]] (by decide) (by decide) v _ _ (HS7.out.below hbA) ⟨_, _, rfl, fun j hj => ⟨_, rfl, hwA.lt, ?_⟩⟩).mono ?_
  · rw [hwA.cell]
    have hj : j < 2 := hj
    have : j = 0 ∨ j = 1 := by omega
    rcases this with rfl | rfl <;> rfl
  rintro e w8 ⟨rfl, hb⟩
  have HB8 := Lib.hid (below_step HB7.out (below_step hbA hb))
  rw [show strsB [[97], [98]] [[97], [98]] = true from rfl]
  clear hb hbA hwA
  go_wp2_with fail
  go_ret
  exact ⟨rfl, HB8.out⟩
end Go.Proofs.YtbnofoncapaabaaGreatDoor
