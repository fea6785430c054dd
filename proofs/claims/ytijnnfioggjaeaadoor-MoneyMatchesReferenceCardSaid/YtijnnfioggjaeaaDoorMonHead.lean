/- The walk of the chapter's examples on money. -/
import Derived.Test.YtijnnfioggjaeaaDoorMonSplitAny
import Derived.Test.YtijnnfioggjaeaaDoorMonInts
import Derived.Test.YtijnnfioggjaeaaDoorMonText
import Derived.Test.YtijnnfioggjaeaaDoorTwo
namespace Go.Proofs.YtijnnfioggjaeaaDoor
open Go.RowKit

theorem list3 (w : World) (x y z : Int) (t : TypeId) : IsInts (w.alloc (.cells #[.int .i64 x, .int .i64 y, .int .i64 z] t)) (some ⟨w.heap.size, 0, none⟩) [x, y, z] := by
  refine Or.inr ⟨w.heap.size, 0, rfl, by rw [size_alloc]; omega, fun k hk => ?_⟩
  rw [cell_alloc, if_pos rfl]
  match k, hk with
  | 0, _ => rfl
  | 1, _ => rfl
  | 2, _ => rfl
  | k + 3, hk => exact absurd hk (by simp)

set_option maxRecDepth 100000 in
set_option maxHeartbeats 8000000 in
theorem head03_any (w : World) (ht : Tab w) :
    Calls Tryd.prog 5 #[] w fun e w' => e = .returned (.bool true) ∧ Below w.heap.size w w' := by
  have HT := Lib.hid ht
  have HS1 : Hid (∀ (ao : Option Addr) (cap : Nat) W, IsInts W ao [1, 1, 1] → Calls Tryd.prog 6 #[.int .i64 100, .slice ao 3 cap] W fun e w' => ∃ ao' cap', e = .returned (.tuple #[.slice ao' 3 cap', .int .i64 0]) ∧ Below W.heap.size W w' ∧ IsInts w' ao' [34, 33, 33]) := Lib.hid fun ao cap W h => by
    have := split_any 100 [1, 1, 1] (by decide) ao cap W h
    rw [show Mon.splitV 100 [1, 1, 1] = [34, 33, 33] by decide +kernel, show Mon.splitE 100 [1, 1, 1] = 0 by decide +kernel] at this
    exact this
  have HS2 : Hid (∀ (ao : Option Addr) (cap : Nat) W, IsInts W ao [3, 0, 1] → Calls Tryd.prog 6 #[.int .i64 5, .slice ao 3 cap] W fun e w' => ∃ ao' cap', e = .returned (.tuple #[.slice ao' 3 cap', .int .i64 0]) ∧ Below W.heap.size W w' ∧ IsInts w' ao' [4, 0, 1]) := Lib.hid fun ao cap W h => by
    have := split_any 5 [3, 0, 1] (by decide) ao cap W h
    rw [show Mon.splitV 5 [3, 0, 1] = [4, 0, 1] by decide +kernel, show Mon.splitE 5 [3, 0, 1] = 0 by decide +kernel] at this
    exact this
  have HP1 := Lib.hid (fun W => percent_any 50 1 W)
  have HP2 := Lib.hid (fun W => percent_any 150 1 W)
  have HP3 := Lib.hid (fun W => percent_any 51 1 W)
  rw [show Mon.pctB 50 1 = true by decide +kernel, show Mon.pct 50 1 = 0 by decide +kernel, if_pos rfl, if_pos rfl] at HP1
  rw [show Mon.pctB 150 1 = true by decide +kernel, show Mon.pct 150 1 = 2 by decide +kernel, if_pos rfl, if_pos rfl] at HP2
  rw [show Mon.pctB 51 1 = true by decide +kernel, show Mon.pct 51 1 = 1 by decide +kernel, if_pos rfl, if_pos rfl] at HP3
  have HX1 : Hid (∀ W, Tab W → Calls Tryd.prog 10 #[.int .i64 5] W fun e w' => e = .returned (.tuple #[.string ⟨#[48, 46, 48, 53]⟩, .int .i64 0]) ∧ Below W.heap.size W w') := Lib.hid fun W hW => by
    have := text_yes 5 (by decide) W hW
    rw [show (Mon.mtext 5).toArray = #[48, 46, 48, 53] by decide +kernel] at this
    exact this
  have HX2 : Hid (∀ W, Tab W → Calls Tryd.prog 10 #[.int .i64 123456] W fun e w' => e = .returned (.tuple #[.string ⟨#[49, 50, 51, 52, 46, 53, 54]⟩, .int .i64 0]) ∧ Below W.heap.size W w') := Lib.hid fun W hW => by
    have := text_yes 123456 (by decide) W hW
    rw [show (Mon.mtext 123456).toArray = #[49, 50, 51, 52, 46, 53, 54] by decide +kernel] at this
    exact this
  have HY1 : Hid (∀ W, Tab W → Calls Tryd.prog 12 #[.string ⟨#[48, 49, 46, 48, 48]⟩] W fun e w' => e = .returned (.tuple #[.int .i64 0, .int .i64 8]) ∧ Below W.heap.size W w') := Lib.hid fun W hW => by
    have := parse_any ⟨#[48, 49, 46, 48, 48]⟩ (by decide) W hW
    rw [show parseN ⟨#[48, 49, 46, 48, 48]⟩ = 0 by decide +kernel, show parseE ⟨#[48, 49, 46, 48, 48]⟩ = 8 by decide +kernel] at this
    exact this
  have HY2 : Hid (∀ W, Tab W → Calls Tryd.prog 12 #[.string ⟨#[49, 46, 53]⟩] W fun e w' => e = .returned (.tuple #[.int .i64 0, .int .i64 8]) ∧ Below W.heap.size W w') := Lib.hid fun W hW => by
    have := parse_any ⟨#[49, 46, 53]⟩ (by decide) W hW
    rw [show parseN ⟨#[49, 46, 53]⟩ = 0 by decide +kernel, show parseE ⟨#[49, 46, 53]⟩ = 8 by decide +kernel] at this
    exact this
  have HI1 : Hid (∀ (ao bo : Option Addr) (ca cb : Nat) W, IsInts W ao [34, 33, 33] → IsInts W bo [34, 33, 33] → Calls Tryd.prog 14 #[.slice ao 3 ca, .slice bo 3 cb] W fun e w' => e = .returned (.bool true) ∧ Below W.heap.size W w') := Lib.hid fun ao bo ca cb W h1 h2 => ints_any [34, 33, 33] [34, 33, 33] (by decide) ao bo ca cb W h1 h2
  have HI2 : Hid (∀ (ao bo : Option Addr) (ca cb : Nat) W, IsInts W ao [4, 0, 1] → IsInts W bo [4, 0, 1] → Calls Tryd.prog 14 #[.slice ao 3 ca, .slice bo 3 cb] W fun e w' => e = .returned (.bool true) ∧ Below W.heap.size W w') := Lib.hid fun ao bo ca cb W h1 h2 => ints_any [4, 0, 1] [4, 0, 1] (by decide) ao bo ca cb W h1 h2
  clear ht
  go_enter Tryd.func5, Tryd.ntmps5
  go_wp2_with fail
  refine (HS1.out _ _ _ (list3 w 1 1 1 3)).mono ?_
  rintro e v1 ⟨a1, c1, rfl, hb, hi⟩
  have HB := Lib.hid (below_step (below_alloc (Below.refl _ w) (.cells #[.int .i64 1, .int .i64 1, .int .i64 1] 3)) hb)
  have HL1 := Lib.hid hi
  clear hb hi
  go_wp2_with fail
  refine (HS2.out _ _ _ (list3 v1 3 0 1 3)).mono ?_
  rintro e v2 ⟨a2, c2, rfl, hb, hi⟩
  replace HL1 := Lib.hid (HL1.out.below (below_step (below_alloc (Below.refl _ v1) (.cells #[.int .i64 3, .int .i64 0, .int .i64 1] 3)) hb))
  replace HB := Lib.hid (below_step (below_alloc HB.out (.cells #[.int .i64 3, .int .i64 0, .int .i64 1] 3)) hb)
  have HL2 := Lib.hid hi
  clear hb hi
  go_wp2_with fail
  refine (HP1.out _).mono ?_
  rintro e _ ⟨rfl, rfl⟩
  go_wp2_with fail
  refine (HP2.out _).mono ?_
  rintro e _ ⟨rfl, rfl⟩
  go_wp2_with fail
  refine (HP3.out _).mono ?_
  rintro e _ ⟨rfl, rfl⟩
  go_wp2_with fail
  refine (HX1.out _ (HT.out.below HB.out)).mono ?_
  rintro e v3 ⟨rfl, hb⟩
  replace HL1 := Lib.hid (HL1.out.below hb)
  replace HL2 := Lib.hid (HL2.out.below hb)
  replace HB := Lib.hid (below_step HB.out hb)
  clear hb
  go_wp2_with fail
  refine (HX2.out _ (HT.out.below HB.out)).mono ?_
  rintro e v4 ⟨rfl, hb⟩
  replace HL1 := Lib.hid (HL1.out.below hb)
  replace HL2 := Lib.hid (HL2.out.below hb)
  replace HB := Lib.hid (below_step HB.out hb)
  clear hb
  go_wp2_with fail
  refine (HY1.out _ (HT.out.below HB.out)).mono ?_
  rintro e v5 ⟨rfl, hb⟩
  replace HL1 := Lib.hid (HL1.out.below hb)
  replace HL2 := Lib.hid (HL2.out.below hb)
  replace HB := Lib.hid (below_step HB.out hb)
  clear hb
  go_wp2_with fail
  refine (HY2.out _ (HT.out.below HB.out)).mono ?_
  rintro e v6 ⟨rfl, hb⟩
  replace HL1 := Lib.hid (HL1.out.below hb)
  replace HL2 := Lib.hid (HL2.out.below hb)
  replace HB := Lib.hid (below_step HB.out hb)
  clear hb
  go_wp2_with fail
  refine (HI1.out _ _ _ _ _ (HL1.out.below (below_alloc (Below.refl _ v6) (.cells #[.int .i64 34, .int .i64 33, .int .i64 33] 3))) (list3 v6 34 33 33 3)).mono ?_
  rintro e v7 ⟨rfl, hb⟩
  replace HL2 := Lib.hid (HL2.out.below (below_step (below_alloc (Below.refl _ v6) (.cells #[.int .i64 34, .int .i64 33, .int .i64 33] 3)) hb))
  replace HB := Lib.hid (below_step (below_alloc HB.out (.cells #[.int .i64 34, .int .i64 33, .int .i64 33] 3)) hb)
  clear hb
  go_wp2_with fail
  refine (HI2.out _ _ _ _ _ (HL2.out.below (below_alloc (Below.refl _ v7) (.cells #[.int .i64 4, .int .i64 0, .int .i64 1] 3))) (list3 v7 4 0 1 3)).mono ?_
  rintro e v8 ⟨rfl, hb⟩
  replace HB := Lib.hid (below_step (below_alloc HB.out (.cells #[.int .i64 4, .int .i64 0, .int .i64 1] 3)) hb)
  clear hb
  go_wp2
  go_ret
  exact ⟨rfl, HB.out⟩

end Go.Proofs.YtijnnfioggjaeaaDoor
