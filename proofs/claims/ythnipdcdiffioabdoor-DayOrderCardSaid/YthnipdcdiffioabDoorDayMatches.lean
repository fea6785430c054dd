/- The statement on days and the reference: its walk. -/
import Derived.Test.YthnipdcdiffioabDoorDayTexts
namespace Go.Proofs.YthnipdcdiffioabDoor
open Go.RowKit

theorem dateRes (n : Int) : ∃ a b c q : Int,
    Hid (∀ w, MTab w → Calls Tryd.prog 9 #[.int .i64 n] w fun e w' => e = .returned (.tuple #[.agg #[.int .i64 a, .int .i64 b, .int .i64 c], .int .i64 q]) ∧ Below w.heap.size w w') ∧
    Hid (∀ w, Calls Tryd.prog 10 #[.int .i64 n] w fun e w' => e = .returned (.tuple #[.int .i64 a, .int .i64 b, .int .i64 c, .int .i64 q]) ∧ Below w.heap.size w w') := by
  by_cases h : 0 ≤ n ∧ n ≤ 40000
  · obtain ⟨K, k1, k2, k3, k4⟩ := month_K n h
    exact ⟨_, _, _, _, Lib.hid fun w hw => of_good n K k1 k3 k4 h w hw, Lib.hid fun w => refDate_good n K k1 k3 k4 h w⟩
  · exact ⟨_, _, _, _, Lib.hid fun w _ => of_bad n h w, Lib.hid fun w => (refDate_bad n h w).mono fun e w' ⟨h1, h2⟩ => ⟨h1, h2 ▸ Below.refl _ _⟩⟩
theorem textRes (n : Int) : ∃ (T : List UInt8) (q : Int),
    Hid (∀ w, MTab w → Tab w → Calls Tryd.prog 13 #[.int .i64 n] w fun e w' => e = .returned (.tuple #[.string ⟨T.toArray⟩, .int .i64 q]) ∧ Below w.heap.size w w') ∧
    Hid (∀ w, Calls Tryd.prog 14 #[.int .i64 n] w fun e w' => e = .returned (.tuple #[.string ⟨T.toArray⟩, .int .i64 q]) ∧ Below w.heap.size w w') := by
  by_cases h : 0 ≤ n ∧ n ≤ 40000
  · obtain ⟨T, hT⟩ := text_ex n h
    exact ⟨T, 0, Lib.hid fun w h1 h2 => text_of hT w h1 h2, Lib.hid fun w => refText_of hT w⟩
  · exact ⟨[], 13, Lib.hid fun w _ _ => (text_bad n h w).mono fun e w' ⟨h1, h2⟩ => ⟨h1, h2 ▸ Below.refl _ _⟩, Lib.hid fun w => (refText_bad n h w).mono fun e w' ⟨h1, h2⟩ => ⟨h1, h2 ▸ Below.refl _ _⟩⟩
theorem numRes (a b c : Int) : ∃ v q : Int,
    Hid (∀ w, MTab w → Calls Tryd.prog 11 #[.int .i64 a, .int .i64 b, .int .i64 c] w fun e w' => e = .returned (.tuple #[.int .i64 v, .int .i64 q]) ∧ Below w.heap.size w w') ∧
    Hid (∀ w, Calls Tryd.prog 12 #[.int .i64 a, .int .i64 b, .int .i64 c] w fun e w' => e = .returned (.tuple #[.int .i64 v, .int .i64 q]) ∧ Below w.heap.size w w') :=
  ⟨_, _, Lib.hid fun w hw => number_any a b c w hw, Lib.hid fun w => refNumber_any a b c w⟩
theorem monRes (n c : Int) : ∃ v q : Int,
    Hid (∀ w, MTab w → Calls Tryd.prog 17 #[.int .i64 n, .int .i64 c] w fun e w' => e = .returned (.tuple #[.int .i64 v, .int .i64 q]) ∧ Below w.heap.size w w') ∧
    Hid (∀ w, Calls Tryd.prog 18 #[.int .i64 n, .int .i64 c] w fun e w' => e = .returned (.tuple #[.int .i64 v, .int .i64 q]) ∧ Below w.heap.size w w') := by
  by_cases h : 0 ≤ n ∧ n ≤ 40000
  · obtain ⟨K, k1, k2, k3, k4⟩ := month_K n h
    by_cases hc : c < -12000 ∨ 12000 < c
    · exact ⟨_, _, Lib.hid fun w _ => (months_bad n c (Or.inr hc) w).mono fun e w' ⟨h1, h2⟩ => ⟨h1, h2 ▸ Below.refl _ _⟩, Lib.hid fun w => refMonths_far n c K k1 k3 k4 h hc w⟩
    · exact ⟨_, _, Lib.hid fun w hw => months_good n c K k1 k3 k4 h (by omega) (by omega) w hw, Lib.hid fun w => refMonths_good n c K k1 k3 k4 h (by omega) (by omega) w⟩
  · exact ⟨_, _, Lib.hid fun w _ => (months_bad n c (Or.inl h) w).mono fun e w' ⟨h1, h2⟩ => ⟨h1, h2 ▸ Below.refl _ _⟩, Lib.hid fun w => refMonths_bad n c h w⟩

set_option maxRecDepth 100000 in
set_option maxHeartbeats 4000000 in
theorem lawDayMatches_any (n a b c k : Int) (s : ByteArray) (hsz : s.size ≤ 140737488351232) (w : World) (hT : MTab w) (ht : Tab w) (hy : Syn w) :
    Calls Tryd.prog 3 #[.int .i64 n, .int .i64 a, .int .i64 b, .int .i64 c, .int .i64 k, .string s] w fun e w' => e = .returned (.bool true) ∧ Below w.heap.size w w' := by
  have HT := Lib.hid hT
  have HTb := Lib.hid ht
  have HS := Lib.hid hy
  have HH := Lib.hid (dayHead_any w hT ht)
  clear hT ht hy
  by_cases hlen : 100 < s.size
  · go_enter Tryd.func3, Tryd.ntmps3
    go_wp2_with fail
    refine HH.out.mono ?_
    rintro e v1 ⟨rfl, hb⟩
    go_wp2
    go_ret
    exact ⟨rfl, hb⟩
  · obtain ⟨da, db, dc, dq, D1, D2⟩ := dateRes n
    obtain ⟨nv, nq, N1, N2⟩ := numRes a b c
    obtain ⟨T, tq, T1, T2⟩ := textRes n
    obtain ⟨pv, pq, P1, P2, -⟩ := parse_any s (by omega)
    obtain ⟨mv, mq, M1, M2⟩ := monRes n k
    have hTT : (T == T) = true := by simp
    go_enter Tryd.func3, Tryd.ntmps3
    go_wp2_with fail
    refine HH.out.mono ?_
    rintro e v1 ⟨rfl, hb⟩
    go_wp2_with fail
    refine (D1.out _ (HT.out.below hb)).mono ?_
    rintro e v2 ⟨rfl, h⟩
    replace hb := hb.trans (h.mono hb.size)
    clear h
    go_wp2_with fail
    have K1 := Lib.hid (Cells3.new v2 da db dc 24)
    refine (D2.out _).mono ?_
    rintro e v3 ⟨rfl, h⟩
    replace K1 := Lib.hid (K1.out.keep h)
    replace hb := (hb.alloc hb.size _).trans (h.mono (by have := hb.size; simp; omega))
    clear h
    go_wp2_with fail
    refine (N1.out _ (HT.out.below hb)).mono ?_
    rintro e w1 ⟨rfl, h⟩
    replace K1 := Lib.hid (K1.out.keep h)
    replace hb := hb.trans (h.mono hb.size)
    clear h
    go_wp2_with fail
    refine (N2.out _ ).mono ?_
    rintro e w1 ⟨rfl, h⟩
    replace K1 := Lib.hid (K1.out.keep h)
    replace hb := hb.trans (h.mono hb.size)
    clear h
    go_wp2_with fail
    refine (T1.out _ (HT.out.below hb) (HTb.out.below hb)).mono ?_
    rintro e w1 ⟨rfl, h⟩
    replace K1 := Lib.hid (K1.out.keep h)
    replace hb := hb.trans (h.mono hb.size)
    clear h
    go_wp2_with fail
    refine (T2.out _ ).mono ?_
    rintro e w1 ⟨rfl, h⟩
    replace K1 := Lib.hid (K1.out.keep h)
    replace hb := hb.trans (h.mono hb.size)
    clear h
    go_wp2_with fail
    refine (P1.out _ (HT.out.below hb) (HTb.out.below hb) (HS.out.below hb)).mono ?_
    rintro e w1 ⟨rfl, h⟩
    replace K1 := Lib.hid (K1.out.keep h)
    replace hb := hb.trans (h.mono hb.size)
    clear h
    go_wp2_with fail
    refine (P2.out _ ).mono ?_
    rintro e w1 ⟨rfl, h⟩
    replace K1 := Lib.hid (K1.out.keep h)
    replace hb := hb.trans (h.mono hb.size)
    clear h
    go_wp2_with fail
    refine (M1.out _ (HT.out.below hb)).mono ?_
    rintro e w1 ⟨rfl, h⟩
    replace K1 := Lib.hid (K1.out.keep h)
    replace hb := hb.trans (h.mono hb.size)
    clear h
    go_wp2_with fail
    refine (M2.out _ ).mono ?_
    rintro e w1 ⟨rfl, h⟩
    replace K1 := Lib.hid (K1.out.keep h)
    replace hb := hb.trans (h.mono hb.size)
    clear h
    have q0 := K1.out.c0
    have q1 := K1.out.c1
    have q2 := K1.out.c2
    go_wp2
    go_ret
    exact ⟨rfl, hb⟩

end Go.Proofs.YthnipdcdiffioabDoor
