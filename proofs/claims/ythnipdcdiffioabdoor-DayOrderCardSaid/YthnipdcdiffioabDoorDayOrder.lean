/- The statement on the order of days' texts: its walk. -/
import Derived.Test.YthnipdcdiffioabDoorDayOrderMath
namespace Go.Proofs.YthnipdcdiffioabDoor
open Go.RowKit

set_option maxRecDepth 100000 in
set_option maxHeartbeats 8000000 in
theorem lawOrder_any (n m : Int) (s : ByteArray) (hsz : s.size ≤ 140737488351232) (w : World) (hT : MTab w) (ht : Tab w) (hy : Syn w) :
    Calls Tryd.prog 6 #[.int .i64 n, .int .i64 m, .string s] w fun e w' => e = .returned (.bool true) ∧ Below w.heap.size w w' := by
  have HT := Lib.hid hT
  have HTb := Lib.hid ht
  have HS := Lib.hid hy
  have HH := Lib.hid (dayHead_any w hT ht)
  clear hT ht hy
  by_cases hlen : 100 < s.size
  · go_enter Tryd.func6, Tryd.ntmps6
    go_wp2_with fail
    refine HH.out.mono ?_
    rintro e v1 ⟨rfl, hb⟩
    go_wp2
    go_ret
    exact ⟨rfl, hb⟩
  · obtain ⟨pv, pq, P1, -, hk⟩ := parse_any s (by omega)
    have last : ∃ U : List UInt8, (pq = 8 ∧ pv = 0) ∨ (pq = 0 ∧ U = s.data.toList ∧ Hid (∀ w, MTab w → Tab w → Calls Tryd.prog 13 #[.int .i64 pv] w fun e w' => e = .returned (.tuple #[.string ⟨U.toArray⟩, .int .i64 0]) ∧ Below w.heap.size w w')) := by
      rcases hk with ⟨h1, h2⟩ | ⟨-, h1, h2⟩
      · exact ⟨_, Or.inr ⟨h2, rfl, Lib.hid fun w a b => text_of h1 w a b⟩⟩
      · exact ⟨[], Or.inl ⟨h2, h1⟩⟩
    clear hk
    obtain ⟨U, last⟩ := last
    have first : ∃ (S : List UInt8) (e : Int) (T : List UInt8) (f : Int),
        Hid (∀ w, MTab w → Tab w → Calls Tryd.prog 13 #[.int .i64 n] w fun x w' => x = .returned (.tuple #[.string ⟨S.toArray⟩, .int .i64 e]) ∧ Below w.heap.size w w') ∧
        Hid (∀ w, MTab w → Tab w → Calls Tryd.prog 13 #[.int .i64 m] w fun x w' => x = .returned (.tuple #[.string ⟨T.toArray⟩, .int .i64 f]) ∧ Below w.heap.size w w') ∧
        (e = 13 ∨ (e = 0 ∧ Hid (∀ w, MTab w → Tab w → Syn w → Calls Tryd.prog 15 #[.string ⟨S.toArray⟩] w fun x w' => x = .returned (.tuple #[.int .i64 n, .int .i64 0]) ∧ Below w.heap.size w w') ∧
          (f = 13 ∨ (f = 0 ∧ Op.bytesLess S T = decide (n < m))))) := by
      by_cases hn : 0 ≤ n ∧ n ≤ 40000
      · obtain ⟨S, hS⟩ := text_ex n hn
        by_cases hm : 0 ≤ m ∧ m ≤ 40000
        · obtain ⟨T, hTt⟩ := text_ex m hm
          exact ⟨S, 0, T, 0, Lib.hid fun w a b => text_of hS w a b, Lib.hid fun w a b => text_of hTt w a b, Or.inr ⟨rfl, parse_text hS, Or.inr ⟨rfl, text_less hS hTt⟩⟩⟩
        · exact ⟨S, 0, [], 13, Lib.hid fun w a b => text_of hS w a b, Lib.hid fun w _ _ => (text_bad m hm w).mono fun e w' ⟨h1, h2⟩ => ⟨h1, h2 ▸ Below.refl _ _⟩, Or.inr ⟨rfl, parse_text hS, Or.inl rfl⟩⟩
      · obtain ⟨T, tq, T1, -⟩ := textRes m
        exact ⟨[], 13, T, tq, Lib.hid fun w _ _ => (text_bad n hn w).mono fun e w' ⟨h1, h2⟩ => ⟨h1, h2 ▸ Below.refl _ _⟩, T1, Or.inl rfl⟩
    obtain ⟨S, e, T, f, S1, T1, hef⟩ := first
    have hUU : Hid (pq = 0 → (U == s.toList) = true) := Lib.hid fun h => by
      rcases last with ⟨h1, -⟩ | ⟨-, h1, -⟩
      · omega
      · rw [ByteArray.toList_eq, h1]; simp
    have mid : e = 13 ∨ (e = 0 ∧ f = 13) ∨ (e = 0 ∧ f = 0 ∧ n < m ∧ Op.bytesLess S T = true) ∨ (e = 0 ∧ f = 0 ∧ ¬ n < m ∧ Op.bytesLess S T = false) := by
      rcases hef with h | ⟨h, -, h2 | ⟨h2, h3⟩⟩
      · exact Or.inl h
      · exact Or.inr (Or.inl ⟨h, h2⟩)
      · by_cases h4 : n < m
        · exact Or.inr (Or.inr (Or.inl ⟨h, h2, h4, by rw [h3]; exact decide_eq_true h4⟩))
        · exact Or.inr (Or.inr (Or.inr ⟨h, h2, h4, by rw [h3]; exact decide_eq_false h4⟩))
    have HB : Hid (e = 0 → ∀ w, MTab w → Tab w → Syn w → Calls Tryd.prog 15 #[.string ⟨S.toArray⟩] w fun x w' => x = .returned (.tuple #[.int .i64 n, .int .i64 0]) ∧ Below w.heap.size w w') := Lib.hid fun h => by
      rcases hef with h1 | ⟨-, h1, -⟩
      · omega
      · exact h1.out
    clear hef
    rcases mid with rfl | ⟨rfl, rfl⟩ | ⟨rfl, rfl, hnm, hbl⟩ | ⟨rfl, rfl, hnm, hbl⟩
    · clear HB
      rcases last with ⟨rfl, rfl⟩ | ⟨rfl, -, HU⟩
      · clear hUU
        go_enter Tryd.func6, Tryd.ntmps6
        go_wp2_with fail
        refine HH.out.mono ?_
        rintro e v1 ⟨rfl, hb⟩
        go_wp2_with fail
        refine (S1.out _ (HT.out.below hb) (HTb.out.below hb)).mono ?_
        rintro e w1 ⟨rfl, h⟩
        replace hb := hb.trans (h.mono hb.size)
        clear h
        go_wp2_with fail
        refine (T1.out _ (HT.out.below hb) (HTb.out.below hb)).mono ?_
        rintro e w2 ⟨rfl, h⟩
        replace hb := hb.trans (h.mono hb.size)
        clear h
        go_wp2_with fail
        refine (P1.out _ (HT.out.below hb) (HTb.out.below hb) (HS.out.below hb)).mono ?_
        rintro e w4 ⟨rfl, h⟩
        replace hb := hb.trans (h.mono hb.size)
        clear h
        go_wp2
        go_ret
        exact ⟨rfl, hb⟩
      · have hU := hUU.out (by first | rfl | trivial)
        go_enter Tryd.func6, Tryd.ntmps6
        go_wp2_with fail
        refine HH.out.mono ?_
        rintro e v1 ⟨rfl, hb⟩
        go_wp2_with fail
        refine (S1.out _ (HT.out.below hb) (HTb.out.below hb)).mono ?_
        rintro e w1 ⟨rfl, h⟩
        replace hb := hb.trans (h.mono hb.size)
        clear h
        go_wp2_with fail
        refine (T1.out _ (HT.out.below hb) (HTb.out.below hb)).mono ?_
        rintro e w2 ⟨rfl, h⟩
        replace hb := hb.trans (h.mono hb.size)
        clear h
        go_wp2_with fail
        refine (P1.out _ (HT.out.below hb) (HTb.out.below hb) (HS.out.below hb)).mono ?_
        rintro e w4 ⟨rfl, h⟩
        replace hb := hb.trans (h.mono hb.size)
        clear h
        go_wp2_with fail
        refine (HU.out _ (HT.out.below hb) (HTb.out.below hb)).mono ?_
        rintro e w5 ⟨rfl, h⟩
        replace hb := hb.trans (h.mono hb.size)
        clear h
        go_wp2
        go_ret
        exact ⟨rfl, hb⟩
    · have HB2 := Lib.hid (HB.out rfl)
      clear HB
      rcases last with ⟨rfl, rfl⟩ | ⟨rfl, -, HU⟩
      · clear hUU
        go_enter Tryd.func6, Tryd.ntmps6
        go_wp2_with fail
        refine HH.out.mono ?_
        rintro e v1 ⟨rfl, hb⟩
        go_wp2_with fail
        refine (S1.out _ (HT.out.below hb) (HTb.out.below hb)).mono ?_
        rintro e w1 ⟨rfl, h⟩
        replace hb := hb.trans (h.mono hb.size)
        clear h
        go_wp2_with fail
        refine (T1.out _ (HT.out.below hb) (HTb.out.below hb)).mono ?_
        rintro e w2 ⟨rfl, h⟩
        replace hb := hb.trans (h.mono hb.size)
        clear h
        go_wp2_with fail
        refine (HB2.out _ (HT.out.below hb) (HTb.out.below hb) (HS.out.below hb)).mono ?_
        rintro e w3 ⟨rfl, h⟩
        replace hb := hb.trans (h.mono hb.size)
        clear h
        go_wp2_with fail
        refine (P1.out _ (HT.out.below hb) (HTb.out.below hb) (HS.out.below hb)).mono ?_
        rintro e w4 ⟨rfl, h⟩
        replace hb := hb.trans (h.mono hb.size)
        clear h
        go_wp2
        go_ret
        exact ⟨rfl, hb⟩
      · have hU := hUU.out (by first | rfl | trivial)
        go_enter Tryd.func6, Tryd.ntmps6
        go_wp2_with fail
        refine HH.out.mono ?_
        rintro e v1 ⟨rfl, hb⟩
        go_wp2_with fail
        refine (S1.out _ (HT.out.below hb) (HTb.out.below hb)).mono ?_
        rintro e w1 ⟨rfl, h⟩
        replace hb := hb.trans (h.mono hb.size)
        clear h
        go_wp2_with fail
        refine (T1.out _ (HT.out.below hb) (HTb.out.below hb)).mono ?_
        rintro e w2 ⟨rfl, h⟩
        replace hb := hb.trans (h.mono hb.size)
        clear h
        go_wp2_with fail
        refine (HB2.out _ (HT.out.below hb) (HTb.out.below hb) (HS.out.below hb)).mono ?_
        rintro e w3 ⟨rfl, h⟩
        replace hb := hb.trans (h.mono hb.size)
        clear h
        go_wp2_with fail
        refine (P1.out _ (HT.out.below hb) (HTb.out.below hb) (HS.out.below hb)).mono ?_
        rintro e w4 ⟨rfl, h⟩
        replace hb := hb.trans (h.mono hb.size)
        clear h
        go_wp2_with fail
        refine (HU.out _ (HT.out.below hb) (HTb.out.below hb)).mono ?_
        rintro e w5 ⟨rfl, h⟩
        replace hb := hb.trans (h.mono hb.size)
        clear h
        go_wp2
        go_ret
        exact ⟨rfl, hb⟩
    · have HB2 := Lib.hid (HB.out rfl)
      clear HB
      rcases last with ⟨rfl, rfl⟩ | ⟨rfl, -, HU⟩
      · clear hUU
        go_enter Tryd.func6, Tryd.ntmps6
        go_wp2_with fail
        refine HH.out.mono ?_
        rintro e v1 ⟨rfl, hb⟩
        go_wp2_with fail
        refine (S1.out _ (HT.out.below hb) (HTb.out.below hb)).mono ?_
        rintro e w1 ⟨rfl, h⟩
        replace hb := hb.trans (h.mono hb.size)
        clear h
        go_wp2_with fail
        refine (T1.out _ (HT.out.below hb) (HTb.out.below hb)).mono ?_
        rintro e w2 ⟨rfl, h⟩
        replace hb := hb.trans (h.mono hb.size)
        clear h
        go_wp2_with fail
        refine (HB2.out _ (HT.out.below hb) (HTb.out.below hb) (HS.out.below hb)).mono ?_
        rintro e w3 ⟨rfl, h⟩
        replace hb := hb.trans (h.mono hb.size)
        clear h
        go_wp2_with fail
        refine (P1.out _ (HT.out.below hb) (HTb.out.below hb) (HS.out.below hb)).mono ?_
        rintro e w4 ⟨rfl, h⟩
        replace hb := hb.trans (h.mono hb.size)
        clear h
        go_wp2
        go_ret
        exact ⟨rfl, hb⟩
      · have hU := hUU.out (by first | rfl | trivial)
        go_enter Tryd.func6, Tryd.ntmps6
        go_wp2_with fail
        refine HH.out.mono ?_
        rintro e v1 ⟨rfl, hb⟩
        go_wp2_with fail
        refine (S1.out _ (HT.out.below hb) (HTb.out.below hb)).mono ?_
        rintro e w1 ⟨rfl, h⟩
        replace hb := hb.trans (h.mono hb.size)
        clear h
        go_wp2_with fail
        refine (T1.out _ (HT.out.below hb) (HTb.out.below hb)).mono ?_
        rintro e w2 ⟨rfl, h⟩
        replace hb := hb.trans (h.mono hb.size)
        clear h
        go_wp2_with fail
        refine (HB2.out _ (HT.out.below hb) (HTb.out.below hb) (HS.out.below hb)).mono ?_
        rintro e w3 ⟨rfl, h⟩
        replace hb := hb.trans (h.mono hb.size)
        clear h
        go_wp2_with fail
        refine (P1.out _ (HT.out.below hb) (HTb.out.below hb) (HS.out.below hb)).mono ?_
        rintro e w4 ⟨rfl, h⟩
        replace hb := hb.trans (h.mono hb.size)
        clear h
        go_wp2_with fail
        refine (HU.out _ (HT.out.below hb) (HTb.out.below hb)).mono ?_
        rintro e w5 ⟨rfl, h⟩
        replace hb := hb.trans (h.mono hb.size)
        clear h
        go_wp2
        go_ret
        exact ⟨rfl, hb⟩
    · have HB2 := Lib.hid (HB.out rfl)
      clear HB
      rcases last with ⟨rfl, rfl⟩ | ⟨rfl, -, HU⟩
      · clear hUU
        go_enter Tryd.func6, Tryd.ntmps6
        go_wp2_with fail
        refine HH.out.mono ?_
        rintro e v1 ⟨rfl, hb⟩
        go_wp2_with fail
        refine (S1.out _ (HT.out.below hb) (HTb.out.below hb)).mono ?_
        rintro e w1 ⟨rfl, h⟩
        replace hb := hb.trans (h.mono hb.size)
        clear h
        go_wp2_with fail
        refine (T1.out _ (HT.out.below hb) (HTb.out.below hb)).mono ?_
        rintro e w2 ⟨rfl, h⟩
        replace hb := hb.trans (h.mono hb.size)
        clear h
        go_wp2_with fail
        refine (HB2.out _ (HT.out.below hb) (HTb.out.below hb) (HS.out.below hb)).mono ?_
        rintro e w3 ⟨rfl, h⟩
        replace hb := hb.trans (h.mono hb.size)
        clear h
        go_wp2_with fail
        refine (P1.out _ (HT.out.below hb) (HTb.out.below hb) (HS.out.below hb)).mono ?_
        rintro e w4 ⟨rfl, h⟩
        replace hb := hb.trans (h.mono hb.size)
        clear h
        go_wp2
        go_ret
        exact ⟨rfl, hb⟩
      · have hU := hUU.out (by first | rfl | trivial)
        go_enter Tryd.func6, Tryd.ntmps6
        go_wp2_with fail
        refine HH.out.mono ?_
        rintro e v1 ⟨rfl, hb⟩
        go_wp2_with fail
        refine (S1.out _ (HT.out.below hb) (HTb.out.below hb)).mono ?_
        rintro e w1 ⟨rfl, h⟩
        replace hb := hb.trans (h.mono hb.size)
        clear h
        go_wp2_with fail
        refine (T1.out _ (HT.out.below hb) (HTb.out.below hb)).mono ?_
        rintro e w2 ⟨rfl, h⟩
        replace hb := hb.trans (h.mono hb.size)
        clear h
        go_wp2_with fail
        refine (HB2.out _ (HT.out.below hb) (HTb.out.below hb) (HS.out.below hb)).mono ?_
        rintro e w3 ⟨rfl, h⟩
        replace hb := hb.trans (h.mono hb.size)
        clear h
        go_wp2_with fail
        refine (P1.out _ (HT.out.below hb) (HTb.out.below hb) (HS.out.below hb)).mono ?_
        rintro e w4 ⟨rfl, h⟩
        replace hb := hb.trans (h.mono hb.size)
        clear h
        go_wp2_with fail
        refine (HU.out _ (HT.out.below hb) (HTb.out.below hb)).mono ?_
        rintro e w5 ⟨rfl, h⟩
        replace hb := hb.trans (h.mono hb.size)
        clear h
        go_wp2
        go_ret
        exact ⟨rfl, hb⟩

end Go.Proofs.YthnipdcdiffioabDoor
