/- The walk of the statements' fixed examples over package day. -/
import Derived.Test.YthnipdcdiffioabDoorDayWalksE
namespace Go.Proofs.YthnipdcdiffioabDoor
open Go.RowKit

/-- Three cells of a block. -/
structure Cells3 (w : World) (b : Nat) (x y z : Int) : Prop where
  lt : b < w.heap.size
  c0 : w.cell? ⟨b, 0, none⟩ = some (.int .i64 x)
  c1 : w.cell? ⟨b, 1, none⟩ = some (.int .i64 y)
  c2 : w.cell? ⟨b, 2, none⟩ = some (.int .i64 z)
theorem Cells3.keep {w v : World} {b : Nat} {x y z : Int} (h : Cells3 w b x y z) (hb : Below w.heap.size w v) : Cells3 v b x y z :=
  ⟨Nat.lt_of_lt_of_le h.lt hb.size, by rw [hb.cell (p := ⟨b, 0, none⟩) h.lt]; exact h.c0, by rw [hb.cell (p := ⟨b, 1, none⟩) h.lt]; exact h.c1, by rw [hb.cell (p := ⟨b, 2, none⟩) h.lt]; exact h.c2⟩
theorem Cells3.new (w : World) (x y z : Int) (T : TypeId) : Cells3 (w.alloc (.cells #[.int .i64 x, .int .i64 y, .int .i64 z] T)) w.heap.size x y z :=
  ⟨by simp, by simp [cell_alloc], by simp [cell_alloc], by simp [cell_alloc]⟩
theorem Cells3.alloc {w : World} {b : Nat} {x y z : Int} (h : Cells3 w b x y z) (o : Obj) : Cells3 (w.alloc o) b x y z := h.keep ((Below.refl _ _).alloc (Nat.le_refl _) _)

theorem of_0 (w : World) (hT : MTab w) : Calls Tryd.prog 9 #[.int .i64 0] w fun e w' => e = .returned (.tuple #[.agg #[.int .i64 2000, .int .i64 1, .int .i64 1], .int .i64 0]) ∧ Below w.heap.size w w' :=
  of_good 0 0 (by decide) (by decide +kernel) (by decide +kernel) (by decide) w hT
theorem of_59 (w : World) (hT : MTab w) : Calls Tryd.prog 9 #[.int .i64 59] w fun e w' => e = .returned (.tuple #[.agg #[.int .i64 2000, .int .i64 2, .int .i64 29], .int .i64 0]) ∧ Below w.heap.size w w' := by
  have := of_good 59 1 (by decide) (by decide +kernel) (by decide +kernel) (by decide) w hT
  rw [show Cal.yr 1 = 2000 by decide +kernel, show Cal.mo 1 = 2 by decide +kernel, show (59 : Int) - Cal.cum 1 + 1 = 29 by decide +kernel] at this
  exact this
theorem of_40000 (w : World) (hT : MTab w) : Calls Tryd.prog 9 #[.int .i64 40000] w fun e w' => e = .returned (.tuple #[.agg #[.int .i64 2109, .int .i64 7, .int .i64 8], .int .i64 0]) ∧ Below w.heap.size w w' := by
  have := of_good 40000 1314 (by decide) (by decide +kernel) (by decide +kernel) (by decide) w hT
  rw [show Cal.yr 1314 = 2109 by decide +kernel, show Cal.mo 1314 = 7 by decide +kernel, show (40000 : Int) - Cal.cum 1314 + 1 = 8 by decide +kernel] at this
  exact this
theorem number_2100 (w : World) (hT : MTab w) : Calls Tryd.prog 11 #[.int .i64 2100, .int .i64 2, .int .i64 29] w fun e w' => e = .returned (.tuple #[.int .i64 0, .int .i64 1]) ∧ w = w' :=
  number_arg 2100 2 29 (Or.inr (Or.inr (Or.inr (by decide +kernel)))) w hT
theorem text_366 (w : World) (hT : MTab w) (ht : Tab w) : Calls Tryd.prog 13 #[.int .i64 366] w fun e w' => e = .returned (.tuple #[.string ⟨#[50, 48, 48, 49, 45, 48, 49, 45, 48, 49]⟩, .int .i64 0]) ∧ Below w.heap.size w w' := by
  have := text_good 366 12 2001 1 1 (by decide) (by decide +kernel) (by decide +kernel) (by decide) (by decide +kernel) (by decide +kernel) (by decide +kernel) w hT ht
  have e : dateText 2001 1 1 = [50, 48, 48, 49, 45, 48, 49, 45, 48, 49] := by simp [dateText, two, Lib.decDigits]
  rw [e] at this
  exact this
theorem months_30 (w : World) (hT : MTab w) : Calls Tryd.prog 17 #[.int .i64 30, .int .i64 1] w fun e w' => e = .returned (.tuple #[.int .i64 59, .int .i64 0]) ∧ Below w.heap.size w w' := by
  have := months_good 30 1 0 (by decide) (by decide +kernel) (by decide +kernel) (by decide) (by decide) (by decide) w hT
  rw [show numE (monY 0 1) (monM 0 1) (monD 30 0 1) = 0 by decide +kernel, show numV (monY 0 1) (monM 0 1) (monD 30 0 1) = 59 by decide +kernel] at this
  exact this

set_option maxHeartbeats 4000000 in
theorem dayHead_any (w : World) (hT : MTab w) (ht : Tab w) :
    Calls Tryd.prog 8 #[] w fun e w' => e = .returned (.bool true) ∧ Below w.heap.size w w' := by
  have HT := Lib.hid hT
  have Ht := Lib.hid ht
  clear hT ht
  go_enter Tryd.func8, Tryd.ntmps8
  go_wp2_with fail
  refine (of_0 _ HT.out).mono ?_
  rintro e v1 ⟨rfl, hb⟩
  go_wp2_with fail
  have K1 := Lib.hid (Cells3.new v1 2000 1 1 24)
  refine (of_59 _ (HT.out.below (hb.alloc hb.size _))).mono ?_
  rintro e v2 ⟨rfl, h⟩
  replace K1 := Lib.hid (K1.out.keep h)
  replace hb := (hb.alloc hb.size _).trans (h.mono (by have := hb.size; simp; omega))
  clear h
  go_wp2_with fail
  have K2 := Lib.hid (Cells3.new v2 2000 2 29 24)
  replace K1 := Lib.hid (K1.out.alloc (.cells #[.int .i64 2000, .int .i64 2, .int .i64 29] 24))
  refine (of_40000 _ (HT.out.below (hb.alloc hb.size _))).mono ?_
  rintro e v3 ⟨rfl, h⟩
  replace K1 := Lib.hid (K1.out.keep h)
  replace K2 := Lib.hid (K2.out.keep h)
  replace hb := (hb.alloc hb.size _).trans (h.mono (by have := hb.size; simp; omega))
  clear h
  go_wp2_with fail
  have K3 := Lib.hid (Cells3.new v3 2109 7 8 24)
  replace K1 := Lib.hid (K1.out.alloc (.cells #[.int .i64 2109, .int .i64 7, .int .i64 8] 24))
  replace K2 := Lib.hid (K2.out.alloc (.cells #[.int .i64 2109, .int .i64 7, .int .i64 8] 24))
  refine (number_2100 _ (HT.out.below (hb.alloc hb.size _))).mono ?_
  rintro e _ ⟨rfl, rfl⟩
  go_wp2_with fail
  refine (text_366 _ (HT.out.below (hb.alloc hb.size _)) (Ht.out.below (hb.alloc hb.size _))).mono ?_
  rintro e v4 ⟨rfl, h⟩
  replace K1 := Lib.hid (K1.out.keep h)
  replace K2 := Lib.hid (K2.out.keep h)
  replace K3 := Lib.hid (K3.out.keep h)
  replace hb := (hb.alloc hb.size _).trans (h.mono (by have := hb.size; simp; omega))
  clear h
  go_wp2_with fail
  refine (months_30 _ (HT.out.below hb)).mono ?_
  rintro e v5 ⟨rfl, h⟩
  replace K1 := Lib.hid (K1.out.keep h)
  replace K2 := Lib.hid (K2.out.keep h)
  replace K3 := Lib.hid (K3.out.keep h)
  replace hb := hb.trans (h.mono hb.size)
  clear h
  have a0 := K1.out.c0
  have a1 := K1.out.c1
  have a2 := K1.out.c2
  have b0 := K2.out.c0
  have b1 := K2.out.c1
  have b2 := K2.out.c2
  have c0 := K3.out.c0
  have c1 := K3.out.c1
  have c2 := K3.out.c2
  go_wp2
  go_ret
  exact ⟨rfl, hb⟩

end Go.Proofs.YthnipdcdiffioabDoor
