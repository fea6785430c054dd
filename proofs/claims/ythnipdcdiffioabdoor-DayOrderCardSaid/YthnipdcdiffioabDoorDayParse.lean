/- The walks of the two parsers of days. -/
import Derived.Test.YthnipdcdiffioabDoorDayRefD
import Derived.Test.YthnipdcdiffioabDoorDayDates
import Derived.Test.YthnipdcdiffioabDoorShelf
namespace Go.Proofs.YthnipdcdiffioabDoor
open Go.RowKit

/-- The library's error for texts that are no numbers, in a world. -/
def Syn (w : World) : Prop := ∃ te pe, w.cell? ⟨1, 0, none⟩ = some (.iface te pe)
theorem Syn.below {w w' : World} (h : Syn w) (hb : Below w.heap.size w w') : Syn w' := by
  obtain ⟨te, pe, hc⟩ := h
  have lt : 1 < w.heap.size := Lib.lt_of_cell hc
  exact ⟨te, pe, (hb.cell (p := ⟨1, 0, none⟩) lt).trans hc⟩
theorem atoi_walk (s : ByteArray) (hl : s.size ≤ 18) (w : World) (hs : Syn w) :
    Calls Tryd.prog 30 #[.string s] w fun e w' => (∃ ev, e = .returned (.tuple #[.int .i64 ((Lib.atoi s.data.toList).getD 0), ev])) ∧ Below w.heap.size w w' := by
  obtain ⟨te, pe, hc⟩ := hs
  rcases hq : Lib.atoi s.data.toList with _ | n
  · exact (Tryd.strconv_Atoi_err s hl hq _ w hc (Or.inr ⟨_, _, rfl⟩)).mono fun e w' ⟨N, h1, _, _, h2⟩ => ⟨⟨_, h1⟩, h2⟩
  · exact (Tryd.strconv_Atoi s n hl hq w).mono fun e w' ⟨h1, t, h2⟩ => ⟨⟨_, h1⟩, by rw [h2]; exact Lib.bytesWorld_below _ _ _⟩

set_option maxHeartbeats 4000000 in
theorem parse_walk (s : ByteArray) (hs : s.size = 10) (a b c v q : Int) (T : List UInt8) (tq : Int)
    (ha : (Lib.atoi (s.extract 0 4).data.toList).getD 0 = a) (hb : (Lib.atoi (s.extract 5 7).data.toList).getD 0 = b) (hc : (Lib.atoi (s.extract 8 10).data.toList).getD 0 = c)
    (HN : Hid (∀ W, MTab W → Calls Tryd.prog 11 #[.int .i64 a, .int .i64 b, .int .i64 c] W fun e w' => e = .returned (.tuple #[.int .i64 v, .int .i64 q]) ∧ Below W.heap.size W w'))
    (HTx : Hid (∀ W, MTab W → Tab W → Calls Tryd.prog 13 #[.int .i64 v] W fun e w' => e = .returned (.tuple #[.string ⟨T.toArray⟩, .int .i64 tq]) ∧ Below W.heap.size W w'))
    (w : World) (hT : MTab w) (ht : Tab w) (hy : Syn w) :
    Calls Tryd.prog 15 #[.string s] w fun e w' => e = .returned (.tuple #[.int .i64 (if q = 0 ∧ T = s.data.toList then v else 0), .int .i64 (if q = 0 ∧ T = s.data.toList then 0 else 8)]) ∧ Below w.heap.size w w' := by
  have HM := Lib.hid hT
  have HTb := Lib.hid ht
  have HS := Lib.hid hy
  have l1 : (s.extract 0 4).size ≤ 18 := by rw [ByteArray.size_extract]; omega
  have l2 : (s.extract 5 7).size ≤ 18 := by rw [ByteArray.size_extract]; omega
  have l3 : (s.extract 8 10).size ≤ 18 := by rw [ByteArray.size_extract]; omega
  have A1 : Hid (∀ W, Syn W → Calls Tryd.prog 30 #[.string (s.extract 0 4)] W fun e w' => (∃ ev, e = .returned (.tuple #[.int .i64 a, ev])) ∧ Below W.heap.size W w') := Lib.hid fun W h => by rw [← ha]; exact atoi_walk _ l1 W h
  have A2 : Hid (∀ W, Syn W → Calls Tryd.prog 30 #[.string (s.extract 5 7)] W fun e w' => (∃ ev, e = .returned (.tuple #[.int .i64 b, ev])) ∧ Below W.heap.size W w') := Lib.hid fun W h => by rw [← hb]; exact atoi_walk _ l2 W h
  have A3 : Hid (∀ W, Syn W → Calls Tryd.prog 30 #[.string (s.extract 8 10)] W fun e w' => (∃ ev, e = .returned (.tuple #[.int .i64 c, ev])) ∧ Below W.heap.size W w') := Lib.hid fun W h => by rw [← hc]; exact atoi_walk _ l3 W h
  clear ha hb hc hT ht hy l1 l2 l3
  obtain ⟨r, Hr⟩ : ∃ r, Hid (r = if q = 0 ∧ T = s.data.toList then v else 0) := ⟨_, Lib.hid rfl⟩
  obtain ⟨er, Her⟩ : ∃ r, Hid (r = if q = 0 ∧ T = s.data.toList then (0 : Int) else 8) := ⟨_, Lib.hid rfl⟩
  rw [← Hr.out, ← Her.out]
  have hcase : (q ≠ 0 ∧ r = 0 ∧ er = 8) ∨ (q = 0 ∧ T = s.data.toList ∧ r = v ∧ er = 0) ∨ (q = 0 ∧ T ≠ s.data.toList ∧ r = 0 ∧ er = 8) := by
    rw [Hr.out, Her.out]
    by_cases h1 : q = 0
    · by_cases h2 : T = s.data.toList
      · rw [if_pos ⟨h1, h2⟩, if_pos ⟨h1, h2⟩]; exact Or.inr (Or.inl ⟨h1, h2, rfl, rfl⟩)
      · rw [if_neg (fun h => h2 h.2), if_neg (fun h => h2 h.2)]; exact Or.inr (Or.inr ⟨h1, h2, rfl, rfl⟩)
    · rw [if_neg (fun h => h1 h.1), if_neg (fun h => h1 h.1)]; exact Or.inl ⟨h1, rfl, rfl⟩
  clear Hr Her
  obtain ⟨bb, Hbb⟩ : ∃ bb : Bool, Hid (bb = (T == s.data.toList)) := ⟨_, Lib.hid rfl⟩
  have f1 : (T == s.data.toList) = bb := Hbb.out.symm
  have f6 : (T == s.toList) = bb := by rw [ByteArray.toList_eq]; exact f1
  rcases hcase with ⟨hq, rfl, rfl⟩ | ⟨rfl, hTs, rfl, rfl⟩ | ⟨rfl, hTs, rfl, rfl⟩
  case' inl => have g0 : (q == 0) = false := by simp [hq]
  case' inr.inl => obtain rfl : bb = true := by rw [← f1]; simp [hTs]
  case' inr.inr => obtain rfl : bb = false := by rw [← f1]; simp [hTs]
  case' inr.inl => clear hTs
  case' inr.inr => clear hTs
  all_goals
    go_enter Tryd.func15, Tryd.ntmps15
    go_wp2_with fail
    refine (A1.out _ HS.out).mono ?_
    rintro e w1 ⟨⟨ev1, rfl⟩, hb⟩
    go_wp2_with fail
    refine (A2.out _ (HS.out.below hb)).mono ?_
    rintro e w2 ⟨⟨ev2, rfl⟩, h⟩
    replace hb := hb.trans (h.mono hb.size)
    clear h
    go_wp2_with fail
    refine (A3.out _ (HS.out.below hb)).mono ?_
    rintro e w3 ⟨⟨ev3, rfl⟩, h⟩
    replace hb := hb.trans (h.mono hb.size)
    clear h
    go_wp2_with fail
    refine (HN.out _ (HM.out.below hb)).mono ?_
    rintro e w4 ⟨rfl, h⟩
    replace hb := hb.trans (h.mono hb.size)
    clear h
    go_wp2_with fail
    refine (HTx.out _ (HM.out.below hb) (HTb.out.below hb)).mono ?_
    rintro e w5 ⟨rfl, h⟩
    replace hb := hb.trans (h.mono hb.size)
    clear h
    go_wp2
    go_ret2
    exact ⟨rfl, hb⟩

end Go.Proofs.YthnipdcdiffioabDoor
