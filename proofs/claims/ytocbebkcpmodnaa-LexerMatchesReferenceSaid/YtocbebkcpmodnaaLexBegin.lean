/- LexerBeginnings. -/
import Derived.Test.YtocbebkcpmodnaaLexHead
namespace Go.Proofs.Ytocbebkcpmodnaa
open Go.RowKit

theorem lex_bad (T : ByteArray) (hT : T.size ≤ 20000) (x q : Nat) (hx : Lex.lex T.data.toList = .error (x, q)) (W : World) :
    Calls Try.prog 12 #[.string T] W fun e w' => e = .returned (.tuple #[.slice none 0 0, .int .i64 (x : Nat), .int .i64 (q : Nat)]) ∧ x ≠ 0 ∧ Below W.heap.size W w' :=
  (lex_any T (by omega) W).mono fun e w' ⟨hb, h⟩ => by
    rcases h with ⟨h1, _⟩ | ⟨_, x', q', h2, h4, h3⟩ | ⟨_, l, ao, cap, h2, _⟩
    · omega
    · rw [hx] at h2; cases h2; exact ⟨h3, h4, hb⟩
    · rw [hx] at h2; cases h2

theorem Lex.begin {s : List UInt8} {x q : Nat} (h : Lex.lex s = .error (x, q)) (hs : s.length ≤ 4000) : q < s.length ∧ (∃ l, Lex.lex (s.take q) = .ok l) ∧ Lex.lex (s.drop q) = .error (x, 0) := by
  obtain ⟨h1, h2, ⟨l, h3⟩, h4⟩ := Lex.lexF_begin (s.length + 1) 0 0 s x q (by omega) (by omega) h
  rw [Nat.sub_zero] at h2 h3 h4
  refine ⟨h2, ⟨l, ?_⟩, h4 _ 0 0 (by omega) (by omega)⟩
  unfold Lex.lex
  rw [← h3]
  exact Lex.lexF_fuel _ _ _ _ _ (by omega) (by rw [List.length_take]; omega)

set_option maxRecDepth 100000 in
set_option maxHeartbeats 4000000 in
theorem beginnings_any (T : ByteArray) (W : World) : Calls Try.prog 7 #[.string T] W fun e w' => e = .returned (.bool true) ∧ Below W.heap.size W w' := by
  have HH := Lib.hid (head_any W)
  go_enter Try.func7, Try.ntmps7
  go_wp2_with fail
  refine HH.out.mono ?_
  rintro e w1 ⟨rfl, hb⟩
  have HB1 := Lib.hid hb
  clear hb HH
  by_cases h3 : 3000 < T.size
  · have hd : decide ((3000 : Int) < T.size) = true := decide_eq_true (by omega)
    go_wp2_with fail
    go_ret
    exact ⟨rfl, HB1.out⟩
  · have hd : decide ((3000 : Int) < T.size) = false := decide_eq_false (by omega)
    go_wp2_with fail
    cases hx : Lex.lex T.data.toList with
    | ok l =>
      refine (lex_ok T (by omega) l hx w1).mono ?_
      rintro e w2 ⟨ao, cap, rfl, -, hb⟩
      have HB2 := Lib.hid (HB1.out.trans (hb.mono HB1.out.size))
      clear hb HB1
      go_wp2_with fail
      go_ret
      exact ⟨rfl, HB2.out⟩
    | error y =>
      obtain ⟨x, q⟩ := y
      refine (lex_bad T (by omega) x q hx w1).mono ?_
      rintro e w2 ⟨rfl, hx0, hb⟩
      have HB2 := Lib.hid (HB1.out.trans (hb.mono HB1.out.size))
      obtain ⟨hq, ⟨l, hl⟩, hr⟩ := Lex.begin hx (show T.size ≤ 4000 by omega)
      replace hq : q < T.size := hq
      have hxe : ((x : Int) == 0) = false := by
        have : ((x : Int) == 0) = decide ((x : Int) = 0) := rfl
        rw [this, decide_eq_false]; omega
      have hd2 : decide ((T.size : Int) ≤ q) = false := decide_eq_false (by omega)
      have hq0 : (0 : Int) ≤ q := by omega
      have hq1 : (q : Int) ≤ T.size := by omega
      have HL := Lib.hid hl
      have HR := Lib.hid hr
      clear hb HB1 hl hr hx hx0
      go_wp2_with fail
      have e1 : (T.extract 0 q).data.toList = T.data.toList.take q := by rw [Lex.extract_list, List.drop_zero, Nat.sub_zero]
      have s1 : (T.extract 0 q).size ≤ 20000 := by rw [Lex.extract_list, Lex.size_list, List.length_take]; omega
      refine (lex_ok (T.extract 0 q) s1 l (by rw [e1]; exact HL.out) w2).mono ?_
      rintro e w3 ⟨ao, cap, rfl, -, hb⟩
      have HB3 := Lib.hid (HB2.out.trans (hb.mono HB2.out.size))
      clear hb HB2 e1 s1 HL
      go_wp2_with fail
      have e2 : (T.extract q T.size).data.toList = T.data.toList.drop q := by
        rw [Lex.extract_list]
        exact List.take_of_length_le (by rw [List.length_drop]; exact Nat.le_refl _)
      have s2 : (T.extract q T.size).size ≤ 20000 := by rw [Lex.extract_list, Lex.size_list, List.length_take]; omega
      refine (lex_bad (T.extract q T.size) s2 x 0 (by rw [e2]; exact HR.out) w3).mono ?_
      rintro e w4 ⟨rfl, -, hb⟩
      have HB4 := Lib.hid (HB3.out.trans (hb.mono HB3.out.size))
      clear hb HB3 e2 s2 HR
      go_wp2_with fail
      go_ret
      exact ⟨rfl, HB4.out⟩

end Go.Proofs.Ytocbebkcpmodnaa
