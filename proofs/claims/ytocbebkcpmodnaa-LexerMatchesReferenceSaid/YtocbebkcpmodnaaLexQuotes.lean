/- LexerQuotes. -/
import Derived.Test.YtocbebkcpmodnaaLexHead
import Derived.Lib.Strings
namespace Go.Proofs.Ytocbebkcpmodnaa
open Go.RowKit

theorem bytes_back (T : ByteArray) : (⟨T.data.toList.toArray⟩ : ByteArray) = T := by cases T; simp

set_option maxRecDepth 100000 in
set_option maxHeartbeats 4000000 in
theorem quotes_any (T U : ByteArray) (W : World) : Calls Try.prog 9 #[.string T, .string U] W fun e w' => e = .returned (.bool true) ∧ Below W.heap.size W w' := by
  have HH := Lib.hid (head_any W)
  go_enter Try.func9, Try.ntmps9
  go_wp2_with fail
  refine HH.out.mono ?_
  rintro e w1 ⟨rfl, hb⟩
  have HB1 := Lib.hid hb
  clear hb HH
  by_cases h3 : 2000 < T.size
  · have hd : decide ((2000 : Int) < T.size) = true := decide_eq_true (by omega)
    go_wp2_with fail
    go_ret
    exact ⟨rfl, HB1.out⟩
  · have hd : decide ((2000 : Int) < T.size) = false := decide_eq_false (by omega)
    by_cases h4 : 2000 < U.size
    · have hd2 : decide ((2000 : Int) < U.size) = true := decide_eq_true (by omega)
      go_wp2_with fail
      go_ret
      exact ⟨rfl, HB1.out⟩
    · have hd2 : decide ((2000 : Int) < U.size) = false := decide_eq_false (by omega)
      obtain ⟨X, HX⟩ : ∃ X : ByteArray, Hid (X = ⟨(Lex.quote T.data.toList).toArray⟩) := ⟨_, Lib.hid rfl⟩
      obtain ⟨Y, HY⟩ : ∃ X : ByteArray, Hid (X = ⟨(Lex.quote U.data.toList).toArray⟩) := ⟨_, Lib.hid rfl⟩
      have HQ1 := Lib.hid (fun w => quote_any T (by omega) w)
      have HQ2 := Lib.hid (fun w => quote_any U (by omega) w)
      rw [← HX.out] at HQ1
      rw [← HY.out] at HQ2
      have HXs : Hid (X.size ≤ 20000) := Lib.hid (by
        rw [HX.out, Lex.size_list]
        have h1 := (Lex.enc_len T.data.toList).2
        have h2 : T.data.toList.length = T.size := rfl
        unfold Lex.quote
        rw [List.length_cons, List.length_append]
        simp only [List.length_cons, List.length_nil]
        omega)
      have HXl : Hid (Lex.lex X.data.toList = .ok [(3, T.data.toList, 0)]) := Lib.hid (by rw [HX.out]; exact Lex.lex_quote _)
      have HXY : Hid (X = Y ↔ T = U) := Lib.hid (by
        rw [HX.out, HY.out]
        constructor
        · intro h
          have h1 : (Lex.quote T.data.toList).toArray = (Lex.quote U.data.toList).toArray := by injection h
          have h2 := Lex.quote_inj (by simpa using h1)
          rw [← bytes_back T, ← bytes_back U, h2]
        · intro h; rw [h])
      go_wp2_with fail
      refine (HQ1.out _).mono ?_
      rintro e w2 ⟨rfl, hb⟩
      have HB2 := Lib.hid (HB1.out.trans (hb.mono HB1.out.size))
      clear hb HB1
      go_wp2_with fail
      refine (lex_ok X HXs.out _ HXl.out w2).mono ?_
      rintro e w3 ⟨ao, cap, rfl, ht, hb⟩
      have HB3 := Lib.hid (HB2.out.trans (hb.mono HB2.out.size))
      obtain ⟨g, rfl, hg, hlt, k0, k1, k2⟩ := toks_at ht (j := 0) rfl
      rw [bytes_back] at k1
      have k0' : w3.cell? ⟨g, 0, none⟩ = some (.int .i64 3) := k0
      have k1' : w3.cell? ⟨g, 1, none⟩ = some (.string T) := k1
      have k2' : w3.cell? ⟨g, 2, none⟩ = some (.int .i64 0) := k2
      clear hb HB2 ht k0 k1 k2 HXs HXl
      go_wp2_with fail
      refine (HQ2.out _).mono ?_
      rintro e w4 ⟨rfl, hb⟩
      have HB4 := Lib.hid (HB3.out.trans (hb.mono HB3.out.size))
      clear hb HB3
      by_cases he : T = U
      · have hb1 : (T.toList == U.toList) = true := by rw [he]; exact beq_self_eq_true _
        have hb2 : (X.toList == Y.toList) = true := by rw [HXY.out.2 he]; exact beq_self_eq_true _
        clear he
        go_wp2_with fail
        go_ret
        exact ⟨rfl, HB4.out⟩
      · have hb1 : (T.toList == U.toList) = false := (Lib.bytes_beq_false_iff _ _).2 he
        have hb2 : (X.toList == Y.toList) = false := (Lib.bytes_beq_false_iff _ _).2 fun h => he (HXY.out.1 h)
        go_wp2_with fail
        go_ret
        exact ⟨rfl, HB4.out⟩

end Go.Proofs.Ytocbebkcpmodnaa
