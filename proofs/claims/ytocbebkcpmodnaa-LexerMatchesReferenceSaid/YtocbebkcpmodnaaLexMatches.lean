/- LexerMatchesReference. -/
import Derived.Test.YtocbebkcpmodnaaLexRefY
import Derived.Test.YtocbebkcpmodnaaLexParts
namespace Go.Proofs.Ytocbebkcpmodnaa
open Go.RowKit

/-- What both return at a text: one value, and the tokens in memory. -/
theorem lex_both (T : ByteArray) (hT : T.size ≤ 21000) : ∃ (l : List Lex.Tk) (x m : Int), l.length ≤ 100000 ∧ (∀ y ∈ l, y.2.2 ≤ 100000) ∧ ∀ (W : World) (e : Ending) (w' : World), LexPost W T e w' → ∃ ao cap, e = .returned (.tuple #[.slice ao l.length cap, .int .i64 x, .int .i64 m]) ∧ TokRow w' ao l ∧ Below W.heap.size W w' := by
  by_cases h2 : 20000 < T.size
  · refine ⟨[], 7, -1, by simp, by simp, fun W e w' ⟨hb, h⟩ => ?_⟩
    rcases h with ⟨_, h⟩ | ⟨h1, _⟩ | ⟨h1, _⟩
    · exact ⟨none, 0, h, fun j k t a hj => by simp at hj, hb⟩
    · omega
    · omega
  · cases hx : Lex.lex T.data.toList with
    | error y =>
      obtain ⟨x, q⟩ := y
      refine ⟨[], x, q, by simp, by simp, fun W e w' ⟨hb, h⟩ => ?_⟩
      rcases h with ⟨h1, _⟩ | ⟨_, x', q', h3, _, h⟩ | ⟨_, l, ao, cap, h3, _⟩
      · omega
      · rw [hx] at h3
        cases h3
        exact ⟨none, 0, h, fun j k t a hj => by simp at hj, hb⟩
      · rw [hx] at h3; cases h3
    | ok l =>
      have hf := Lex.lex_few hx
      have hl : T.data.toList.length = T.size := rfl
      refine ⟨l, 0, 0, by omega, fun y hy => by have := hf.2 y hy; omega, fun W e w' ⟨hb, h⟩ => ?_⟩
      rcases h with ⟨h1, _⟩ | ⟨_, x', q', h3, _, h⟩ | ⟨_, l', ao, cap, h3, h4, h5⟩
      · omega
      · rw [hx] at h3; cases h3
      · rw [hx] at h3
        cases h3
        exact ⟨ao, cap, h4, toks_row h5, hb⟩

set_option maxRecDepth 100000 in
set_option maxHeartbeats 4000000 in
theorem lexMatches_any (T : ByteArray) (W : World) : Calls Try.prog 3 #[.string T] W fun e w' => e = .returned (.bool true) ∧ Below W.heap.size W w' := by
  have HH := Lib.hid (head_any W)
  go_enter Try.func3, Try.ntmps3
  go_wp2_with fail
  refine HH.out.mono ?_
  rintro e w1 ⟨rfl, hb⟩
  have HB1 := Lib.hid hb
  clear hb HH
  by_cases h3 : 21000 < T.size
  · have hd : decide ((21000 : Int) < T.size) = true := decide_eq_true (by omega)
    go_wp2_with fail
    go_ret
    exact ⟨rfl, HB1.out⟩
  have hd : decide ((21000 : Int) < T.size) = false := decide_eq_false (by omega)
  obtain ⟨l, x, m, hl1, hl2, hP⟩ := lex_both T (by omega)
  have HL := Lib.hid (fun w => (lex_any T (by omega) w).mono (hP w))
  have HRf := Lib.hid (fun w => (refLex_any T (by omega) w).mono (hP w))
  have HS : Hid (∀ w pa pb ca cb, TokRow w pa l → TokRow w pb l → Calls Try.prog 14 #[.slice pa l.length ca, .int .i64 0, .slice pb l.length cb] w fun e w' => e = .returned (.bool true) ∧ Below w.heap.size w w') := Lib.hid fun w pa pb ca cb h1 h2 =>
    same_true pa pb ca cb 0 (by omega) l hl2 hl1 w h1 (by simpa using h2)
  have HN := Lib.hid (fun w => name_any T (by omega) w)
  have HNr := Lib.hid (fun w => refName_any T (by omega) w)
  obtain ⟨v, Hv⟩ : ∃ v, Hid (v = Lex.nameB T.data.toList) := ⟨_, Lib.hid rfl⟩
  rw [← Hv.out] at HN HNr
  obtain ⟨n, Hn⟩ : ∃ n, Hid (n = l.length) := ⟨_, Lib.hid rfl⟩
  rw [← Hn.out] at HL HRf HS hl1
  clear hP hl2
  go_wp2_with fail
  refine (HL.out _).mono ?_
  rintro e w2 ⟨ao, cap, rfl, hr, hb⟩
  have HB2 := Lib.hid (HB1.out.trans (hb.mono HB1.out.size))
  have HR2 := Lib.hid hr
  clear hb hr HB1
  go_wp2_with fail
  refine (HRf.out _).mono ?_
  rintro e w3 ⟨ao', cap', rfl, hr, hb⟩
  have HB3 := Lib.hid (HB2.out.trans (hb.mono HB2.out.size))
  have HR3 := Lib.hid (HR2.out.below hb)
  have HT3 := Lib.hid hr
  clear hb hr HB2 HR2
  go_wp2_with fail
  refine (HS.out _ _ _ _ _ HR3.out HT3.out).mono ?_
  rintro e w4 ⟨rfl, hb⟩
  have HB4 := Lib.hid (HB3.out.trans (hb.mono HB3.out.size))
  clear hb HB3 HR3 HT3
  go_wp2_with fail
  refine (HN.out _).mono ?_
  rintro e w5 ⟨rfl, rfl⟩
  go_wp2_with fail
  refine (HNr.out _).mono ?_
  rintro e w6 ⟨rfl, rfl⟩
  by_cases h5 : 3000 < T.size
  · have hd5 : decide ((3000 : Int) < T.size) = true := decide_eq_true (by omega)
    go_wp2_with fail
    go_ret
    exact ⟨rfl, HB4.out⟩
  · have hd5 : decide ((3000 : Int) < T.size) = false := decide_eq_false (by omega)
    have HQ := Lib.hid (fun w => quote_any T (by omega) w)
    have HQr := Lib.hid (fun w => refQuote_any T (by omega) w)
    obtain ⟨Y, HY⟩ : ∃ Y : ByteArray, Hid (Y = ⟨(Lex.quote T.data.toList).toArray⟩) := ⟨_, Lib.hid rfl⟩
    rw [← HY.out] at HQ HQr
    go_wp2_with fail
    refine (HQ.out _).mono ?_
    rintro e w7 ⟨rfl, hb⟩
    have HB7 := Lib.hid (HB4.out.trans (hb.mono HB4.out.size))
    clear hb HB4
    go_wp2_with fail
    refine (HQr.out _).mono ?_
    rintro e w8 ⟨rfl, rfl⟩
    go_wp2_with fail
    go_ret
    exact ⟨rfl, HB7.out⟩

end Go.Proofs.Ytocbebkcpmodnaa
