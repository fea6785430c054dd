/- The walk: the fixed examples. -/
import Derived.Test.YtejgbfaampllaaaTskUndo
import Derived.Test.YtejgbfaampllaaaTskInts
import Derived.Test.YtejgbfaampllaaaTskCrit
import Derived.Test.YtejgbfaampllaaaTskBoolsEq
namespace Go.Proofs.Ytejgbfaampllaaa
open Go.RowKit

def exT : List Tk := [⟨3, 0, false, []⟩, ⟨2, 0, false, [0]⟩, ⟨4, 0, false, []⟩, ⟨1, 0, false, [1, 2]⟩]
def cyT : List Tk := [⟨1, 0, false, [0]⟩]
theorem ex_order : Tsk.orderV exT = [0, 1, 2, 3] := by decide
theorem ex_orderE : Tsk.orderE exT = 0 := by decide
theorem ex_crit : Tsk.critV exT = 6 := by decide
theorem ex_ready : Tsk.readyV exT [true, false, false, false] = [1, 2] := by decide
theorem ex_undoE : Tsk.undoE exT [true, true, true, true] 0 = 0 := by decide
theorem ex_undo : Tsk.undoV exT [true, true, true, true] 0 = [false, false, true, false] := by decide
theorem cy_orderE : Tsk.orderE cyT = 24 := by decide
theorem cy_order : Tsk.orderV cyT = [] := by decide

theorem exT_fine : ∀ t ∈ exT, tkFine t := by
  intro t ht
  simp only [exT, List.mem_cons, List.not_mem_nil, or_false] at ht
  rcases ht with rfl | rfl | rfl | rfl <;> (unfold tkFine; simp)
theorem cyT_fine : ∀ t ∈ cyT, tkFine t := by
  intro t ht
  simp only [cyT, List.mem_cons, List.not_mem_nil, or_false] at ht
  subst ht
  unfold tkFine; simp
theorem isInts_cells {W : World} {g : Nat} {t : TypeId} (zs : List Int) (h : Whole W g t (zs.map (Value.int .i64)).toArray) : IsInts W (some ⟨g, 0, none⟩) zs :=
  Or.inr ⟨g, 0, rfl, h.lt, fun k hk => by rw [Nat.zero_add, h.cell k]; simp [hk]⟩
theorem isBools_cells {W : World} {g : Nat} {t : TypeId} (zs : List Bool) (h : Whole W g t (zs.map Value.bool).toArray) : IsBools W (some ⟨g, 0, none⟩) zs :=
  Or.inr ⟨g, 0, rfl, h.lt, fun k hk => by rw [Nat.zero_add, h.cell k]; simp [hk]⟩

theorem example_any (W : World) : Calls Try.prog 24 #[] W fun e w' => ∃ g, e = .returned (.slice (some ⟨g, 0, none⟩) 4 4) ∧ Below W.heap.size W w' ∧ IsTasks w' (some ⟨g, 0, none⟩) exT := by
  go_enter Try.func24, Try.ntmps24
  go_wp2
  go_ret
  refine ⟨_, rfl, below_alloc (below_alloc (below_alloc (Below.refl _ _) _) _) _, ?_⟩
  have k0 := ((Whole.new W 26 #[.int .i64 0]))
  have h0 : IsInts (((W.alloc (Obj.cells #[Value.int IntKind.i64 0] 3)).alloc (Obj.cells #[Value.int IntKind.i64 1, Value.int IntKind.i64 2] 3))) (some ⟨W.heap.size, 0, none⟩) [0] := isInts_cells [0] ((Whole.new W 3 #[.int .i64 0]).alloc _)
  have h1 : IsInts (((W.alloc (Obj.cells #[Value.int IntKind.i64 0] 3)).alloc (Obj.cells #[Value.int IntKind.i64 1, Value.int IntKind.i64 2] 3))) (some ⟨W.heap.size + 1, 0, none⟩) [1, 2] := isInts_cells [1, 2] (by have := Whole.new (W.alloc (Obj.cells #[Value.int IntKind.i64 0] 3)) 3 #[.int .i64 1, .int .i64 2]; rwa [size_alloc] at this)
  obtain ⟨w2, hw2⟩ : ∃ x, x = ((W.alloc (Obj.cells #[Value.int IntKind.i64 0] 3)).alloc (Obj.cells #[Value.int IntKind.i64 1, Value.int IntKind.i64 2] 3)) := ⟨_, rfl⟩
  have hs : W.heap.size + 1 + 1 = w2.heap.size := by rw [hw2, size_alloc, size_alloc]
  rw [← hw2] at h0 h1 ⊢
  rw [hs]
  have hb : ∀ o, Below w2.heap.size w2 (w2.alloc o) := fun o => below_alloc (Below.refl _ _) o
  have hw := Whole.new w2 41
  refine Or.inr ⟨_, 0, rfl, (hw _).lt, fun k hk => ?_⟩
  have hk' : k < 4 := hk
  match k, hk' with
  | 0, _ => exact ⟨(hw _).cell 0, (hw _).cell 1, (hw _).cell 2, none, 0, (hw _).cell 3, Or.inl rfl⟩
  | 1, _ => exact ⟨(hw _).cell 4, (hw _).cell 5, (hw _).cell 6, _, _, (hw _).cell 7, h0.below (hb _)⟩
  | 2, _ => exact ⟨(hw _).cell 8, (hw _).cell 9, (hw _).cell 10, none, 0, (hw _).cell 11, Or.inl rfl⟩
  | 3, _ => exact ⟨(hw _).cell 12, (hw _).cell 13, (hw _).cell 14, _, _, (hw _).cell 15, h1.below (hb _)⟩

theorem ex_order_any (g : Nat) (W : World) (h : IsTasks W (some ⟨g, 0, none⟩) exT) : Calls Try.prog 11 #[.slice (some ⟨g, 0, none⟩) 4 4] W fun e w' => ∃ ao cap, e = .returned (.tuple #[.slice ao 4 cap, .int .i64 0]) ∧ Below W.heap.size W w' ∧ IsInts w' ao [0, 1, 2, 3] := by
  refine (order_any exT exT_fine (by decide) (some ⟨g, 0, none⟩) 4 W h).mono ?_
  rintro e w' ⟨ao, cap, he, hb, hi⟩
  rw [ex_order, ex_orderE] at he
  rw [ex_order] at hi
  exact ⟨ao, cap, he, hb, hi⟩
theorem crit_any (l : List Tk) (hf : ∀ t ∈ l, tkFine t) (hn : l.length ≤ 9223372036854775807) (ao : Option Addr) (cap : Nat) (W : World) (hl : IsTasks W ao l) :
    Calls Try.prog 13 #[.slice ao l.length cap] W fun e w' => e = .returned (.tuple #[.int .i64 (Tsk.critV l), .int .i64 (Tsk.orderE l)]) ∧ Below W.heap.size W w' := by
  by_cases he : Tsk.orderE l = 0
  · exact crit_yes l hf hn he ao cap W hl
  · exact crit_no l hf hn he ao cap W hl
theorem ex_crit_any (g : Nat) (W : World) (h : IsTasks W (some ⟨g, 0, none⟩) exT) : Calls Try.prog 13 #[.slice (some ⟨g, 0, none⟩) 4 4] W fun e w' => e = .returned (.tuple #[.int .i64 6, .int .i64 0]) ∧ Below W.heap.size W w' := by
  have := crit_any exT exT_fine (by decide) (some ⟨g, 0, none⟩) 4 W h
  rw [ex_crit, ex_orderE] at this
  exact this
theorem ex_undo_any (g b : Nat) (W : World) (h : IsTasks W (some ⟨g, 0, none⟩) exT) (hb : IsBools W (some ⟨b, 0, none⟩) [true, true, true, true]) : Calls Try.prog 15 #[.slice (some ⟨g, 0, none⟩) 4 4, .slice (some ⟨b, 0, none⟩) 4 4, .int .i64 0] W fun e w' => ∃ ao cap, e = .returned (.tuple #[.slice ao 4 cap, .int .i64 0]) ∧ Below W.heap.size W w' ∧ IsBools w' ao [false, false, true, false] := by
  refine (undo_any exT exT_fine (by decide) [true, true, true, true] 0 (some ⟨g, 0, none⟩) (some ⟨b, 0, none⟩) 4 4 W h hb).mono ?_
  rintro e w' ⟨ao, cap, he, hb, hi⟩
  rw [ex_undoE, ex_undo] at he
  rw [ex_undo] at hi
  exact ⟨ao, cap, he, hb, hi⟩
theorem ex_ready_any (g b : Nat) (W : World) (h : IsTasks W (some ⟨g, 0, none⟩) exT) (hb : IsBools W (some ⟨b, 0, none⟩) [true, false, false, false]) : Calls Try.prog 21 #[.slice (some ⟨g, 0, none⟩) 4 4, .slice (some ⟨b, 0, none⟩) 4 4] W fun e w' => ∃ ao cap, e = .returned (.slice ao 2 cap) ∧ Below W.heap.size W w' ∧ IsInts w' ao [1, 2] := by
  refine (ready_any exT exT_fine (by decide) [true, false, false, false] (by decide) (some ⟨g, 0, none⟩) (some ⟨b, 0, none⟩) 4 4 W h hb).mono ?_
  rintro e w' ⟨ao, cap, he, hb, hi⟩
  rw [ex_ready] at he
  rw [ex_ready] at hi
  exact ⟨ao, cap, he, hb, hi⟩
theorem cy_order_any (g : Nat) (W : World) (h : IsTasks W (some ⟨g, 0, none⟩) cyT) : Calls Try.prog 11 #[.slice (some ⟨g, 0, none⟩) 1 1] W fun e w' => ∃ ao cap, e = .returned (.tuple #[.slice ao 0 cap, .int .i64 24]) ∧ Below W.heap.size W w' := by
  refine (order_any cyT cyT_fine (by decide) (some ⟨g, 0, none⟩) 1 W h).mono ?_
  rintro e w' ⟨ao, cap, he, hb, hi⟩
  rw [cy_order, cy_orderE] at he
  exact ⟨ao, cap, he, hb⟩

set_option maxRecDepth 100000 in
set_option maxHeartbeats 4000000 in
theorem head37_any (W : World) : Calls Try.prog 9 #[] W fun e w' => e = .returned (.bool true) ∧ Below W.heap.size W w' := by
  go_enter Try.func9, Try.ntmps9
  go_wp2_with fail
  refine (example_any _).mono ?_
  rintro e w1 ⟨g, rfl, hb, ht⟩
  have HB1 := Lib.hid hb
  have HT1 := Lib.hid ht
  clear hb ht
  go_wp2_with fail
  refine (ex_order_any g _ HT1.out).mono ?_
  rintro e w2 ⟨ao2, cap2, rfl, hb, hi⟩
  have HB2 := Lib.hid (below_step HB1.out hb)
  have HT2 := Lib.hid (HT1.out.below hb)
  have HI2 := Lib.hid hi
  clear hb hi
  go_wp2_with fail
  refine (ex_crit_any g _ HT2.out).mono ?_
  rintro e w3 ⟨rfl, hb⟩
  have HB3 := Lib.hid (below_step HB2.out hb)
  have HT3 := Lib.hid (HT2.out.below hb)
  have HI3 := Lib.hid (HI2.out.below hb)
  clear hb
  go_wp2_with fail
  refine (ex_undo_any g w3.heap.size _ (HT3.out.below (below_alloc (Below.refl _ _) _)) (isBools_cells [true, true, true, true] (Whole.new w3 4 _))).mono ?_
  rintro e w4 ⟨ao4, cap4, rfl, hb, hi⟩
  have HB4' := Lib.hid (below_step (below_alloc (Below.refl w3.heap.size w3) _) hb)
  clear hb
  have HB4 := Lib.hid (below_step HB3.out HB4'.out)
  have HT4 := Lib.hid (HT3.out.below HB4'.out)
  have HI4 := Lib.hid (HI3.out.below HB4'.out)
  have HBo4 := Lib.hid hi
  clear hi HB4'
  go_wp2_with fail
  refine (cy_order_any (w4.heap.size + 1) _ (by
    have h0 : IsInts (w4.alloc (Obj.cells #[Value.int IntKind.i64 0] 3)) (some ⟨w4.heap.size, 0, none⟩) [0] := isInts_cells [0] (Whole.new w4 3 #[.int .i64 0])
    have hw := Whole.new (w4.alloc (Obj.cells #[Value.int IntKind.i64 0] 3)) 41 #[Value.int IntKind.i64 1, Value.int IntKind.i64 0, Value.bool false, Value.slice (some ⟨w4.heap.size, 0, none⟩) 1 1]
    rw [size_alloc] at hw
    refine Or.inr ⟨_, 0, rfl, hw.lt, fun k hk => ?_⟩
    obtain rfl : k = 0 := by have : k < 1 := hk; omega
    exact ⟨hw.cell 0, hw.cell 1, hw.cell 2, _, _, hw.cell 3, h0.below (below_alloc (Below.refl _ _) _)⟩)).mono ?_
  rintro e w5 ⟨ao5, cap5, rfl, hb⟩
  have HB5' := Lib.hid (below_step (below_alloc (below_alloc (Below.refl w4.heap.size w4) _) _) hb)
  clear hb
  have HB5 := Lib.hid (below_step HB4.out HB5'.out)
  have HT5 := Lib.hid (HT4.out.below HB5'.out)
  have HI5 := Lib.hid (HI4.out.below HB5'.out)
  have HBo5 := Lib.hid (HBo4.out.below HB5'.out)
  clear HB5'
  go_wp2_with fail
  refine (ints_any [0, 1, 2, 3] [0, 1, 2, 3] (by decide) _ _ cap2 4 _ (HI5.out.below (below_alloc (Below.refl _ _) _)) (isInts_cells [0, 1, 2, 3] (Whole.new w5 3 _))).mono ?_
  rintro e w6 ⟨rfl, hb⟩
  have HB6' := Lib.hid (below_step (below_alloc (Below.refl w5.heap.size w5) _) hb)
  clear hb
  have HB6 := Lib.hid (below_step HB5.out HB6'.out)
  have HT6 := Lib.hid (HT5.out.below HB6'.out)
  have HBo6 := Lib.hid (HBo5.out.below HB6'.out)
  clear HB6'
  go_wp2_with fail
  refine (ex_ready_any g w6.heap.size _ (HT6.out.below (below_alloc (Below.refl _ _) _)) (isBools_cells [true, false, false, false] (Whole.new w6 4 _))).mono ?_
  rintro e w7 ⟨ao7, cap7, rfl, hb, hi⟩
  have HB7' := Lib.hid (below_step (below_alloc (Below.refl w6.heap.size w6) _) hb)
  have HI7 := Lib.hid hi
  clear hb hi
  have HB7 := Lib.hid (below_step HB6.out HB7'.out)
  have HBo7 := Lib.hid (HBo6.out.below HB7'.out)
  clear HB7'
  go_wp2_with fail
  refine (ints_any [1, 2] [1, 2] (by decide) _ _ cap7 2 _ (HI7.out.below (below_alloc (Below.refl _ _) _)) (isInts_cells [1, 2] (Whole.new w7 3 _))).mono ?_
  rintro e w8 ⟨rfl, hb⟩
  have HB8' := Lib.hid (below_step (below_alloc (Below.refl w7.heap.size w7) _) hb)
  clear hb
  have HB8 := Lib.hid (below_step HB7.out HB8'.out)
  have HBo8 := Lib.hid (HBo7.out.below HB8'.out)
  clear HB8'
  go_wp2_with fail
  refine (bools_any [false, false, true, false] [false, false, true, false] (by decide) _ _ cap4 4 _ (HBo8.out.below (below_alloc (Below.refl _ _) _)) (isBools_cells [false, false, true, false] (Whole.new w8 4 _))).mono ?_
  rintro e w9 ⟨rfl, hb⟩
  have HB9 := Lib.hid (below_step HB8.out (below_step (below_alloc (Below.refl w8.heap.size w8) _) hb))
  clear hb
  go_wp2
  go_ret
  exact ⟨rfl, HB9.out⟩

end Go.Proofs.Ytejgbfaampllaaa
