/- The walk of the reference's parser of days. -/
import Derived.Test.YthnipdcdiffioabDoorDayParse
namespace Go.Proofs.YthnipdcdiffioabDoor
open Go.RowKit

set_option maxHeartbeats 4000000 in
theorem refParse_len (s : ByteArray) (hs : s.size ≠ 10) (w : World) :
    Calls Tryd.prog 16 #[.string s] w fun e w' => e = .returned (.tuple #[.int .i64 0, .int .i64 8]) ∧ w = w' := by
  have f : (s.size == 10) = false := by simp [hs]
  have f2 : ((s.size : Int) == 10) = false := by simp; omega
  go_enter Tryd.func16, Tryd.ntmps16
  go_wp2
  go_ret2
  exact ⟨rfl, rfl⟩
set_option maxHeartbeats 4000000 in
theorem parse_len (s : ByteArray) (hs : s.size ≠ 10) (w : World) :
    Calls Tryd.prog 15 #[.string s] w fun e w' => e = .returned (.tuple #[.int .i64 0, .int .i64 8]) ∧ w = w' := by
  have f : (s.size == 10) = false := by simp [hs]
  have f2 : ((s.size : Int) == 10) = false := by simp; omega
  go_enter Tryd.func15, Tryd.ntmps15
  go_wp2
  go_ret2
  exact ⟨rfl, rfl⟩

set_option maxHeartbeats 4000000 in
theorem refParse_walk (s : ByteArray) (hs : s.size = 10) (a b c : Nat) (v q : Int) (T : List UInt8)
    (ha : valN (s.extract 0 4).data.toList = a) (hb : valN (s.extract 5 7).data.toList = b) (hc : valN (s.extract 8 10).data.toList = c)
    (HN : Hid (∀ W : World, Calls Tryd.prog 12 #[.int .i64 a, .int .i64 b, .int .i64 c] W fun e w' => e = .returned (.tuple #[.int .i64 v, .int .i64 q]) ∧ Below W.heap.size W w'))
    (HTx : Hid (q = 0 → ∀ W : World, Calls Tryd.prog 14 #[.int .i64 v] W fun e w' => e = .returned (.tuple #[.string ⟨T.toArray⟩, .int .i64 0]) ∧ Below W.heap.size W w'))
    (w : World) :
    Calls Tryd.prog 16 #[.string s] w fun e w' => e = .returned (.tuple #[.int .i64 (if q = 0 ∧ T = s.data.toList then v else 0), .int .i64 (if q = 0 ∧ T = s.data.toList then 0 else 8)]) ∧ Below w.heap.size w w' := by
  have l1 : (s.extract 0 4).size ≤ 4 := by rw [ByteArray.size_extract]; omega
  have l2 : (s.extract 5 7).size ≤ 4 := by rw [ByteArray.size_extract]; omega
  have l3 : (s.extract 8 10).size ≤ 4 := by rw [ByteArray.size_extract]; omega
  have A1 : Hid (∀ W, Calls Tryd.prog 31 #[.string (s.extract 0 4)] W fun e w' => e = .returned (.int .i64 a) ∧ W = w') := Lib.hid fun W => by rw [← ha]; exact refVal_any _ l1 W
  have A2 : Hid (∀ W, Calls Tryd.prog 31 #[.string (s.extract 5 7)] W fun e w' => e = .returned (.int .i64 b) ∧ W = w') := Lib.hid fun W => by rw [← hb]; exact refVal_any _ l2 W
  have A3 : Hid (∀ W, Calls Tryd.prog 31 #[.string (s.extract 8 10)] W fun e w' => e = .returned (.int .i64 c) ∧ W = w') := Lib.hid fun W => by rw [← hc]; exact refVal_any _ l3 W
  clear ha hb hc l1 l2 l3
  obtain ⟨r, Hr⟩ : ∃ r, Hid (r = if q = 0 ∧ T = s.data.toList then v else 0) := ⟨_, Lib.hid rfl⟩
  obtain ⟨er, Her⟩ : ∃ r, Hid (r = if q = 0 ∧ T = s.data.toList then (0 : Int) else 8) := ⟨_, Lib.hid rfl⟩
  rw [← Hr.out, ← Her.out]
  have hcase : (q ≠ 0 ∧ r = 0 ∧ er = 8) ∨ (q = 0 ∧ T = s.data.toList ∧ r = v ∧ er = 0) ∨ (q = 0 ∧ T ≠ s.data.toList ∧ r = 0 ∧ er = 8) := by
    rw [Hr.out, Her.out]
    by_cases h1 : q = 0
    · by_cases h2 : T = s.data.toList
      · rw [if_pos ⟨h1, h2⟩, if_pos ⟨h1, h2⟩]; exact Or.inr (Or.inl ⟨h1, h2, rfl, rfl⟩)
      · rw [if_neg (fun h => h2 h.2), if_neg (fun h => h2 h.2)]; exact Or.inr (Or.inr ⟨h1, h2, rfl, rfl⟩)
    · rw [if_neg (fun h => h1 h.1), if_neg (fun h => h1 h.1)]; exact Or.inl ⟨h1, rfl, rfl⟩
  clear Hr Her
  obtain ⟨bb, Hbb⟩ : ∃ bb : Bool, Hid (bb = (T == s.data.toList)) := ⟨_, Lib.hid rfl⟩
  have f1 : (T == s.data.toList) = bb := Hbb.out.symm
  have f6 : (T == s.toList) = bb := by rw [ByteArray.toList_eq]; exact f1
  rcases hcase with ⟨hq, rfl, rfl⟩ | ⟨rfl, hTs, rfl, rfl⟩ | ⟨rfl, hTs, rfl, rfl⟩
  case' inl => have g0 : (q == 0) = false := by simp [hq]
  case' inl => have g1 : (q != 0) = true := by simp [hq]
  case' inl => have g2 : ¬ q = 0 := hq
  case' inr.inl => obtain rfl : bb = true := by rw [← f1]; simp [hTs]
  case' inr.inr => obtain rfl : bb = false := by rw [← f1]; simp [hTs]
  case' inr.inl => clear hTs
  case' inr.inr => clear hTs
  all_goals
    go_enter Tryd.func16, Tryd.ntmps16
    go_wp2_with fail
    refine wp_region_grown (by kernel_rfl) (by kernel_rfl) ?_
    repeat (go_big_quiet_step (first
      | (go_at_call 31; with_reducible exact grown_of_same (A1.out _))
      | (go_at_call 31; with_reducible exact grown_of_same (A2.out _))
      | (go_at_call 31; with_reducible exact grown_of_same (A3.out _))
      | (go_at_call 12; with_reducible exact grown_of (HN.out _))))
    refine wpQuiet_nil ?_
    rintro _ ⟨x, rfl⟩
    have hb := x.below
  rotate_right
  · go_wp2
    go_ret2
    exact ⟨rfl, hb⟩
  all_goals
    go_wp2_with fail
    refine (HTx.out (by first | trivial | rfl) _).mono ?_
    rintro e w5 ⟨rfl, h⟩
    replace hb := hb.trans (h.mono hb.size)
    clear h
    go_wp2
    go_ret2
    exact ⟨rfl, hb⟩

end Go.Proofs.YthnipdcdiffioabDoor
