/- LexerPlaces. -/
import Derived.Test.YtocbebkcpmodnaaLexRefG
import Derived.Test.YtocbebkcpmodnaaLexParts
namespace Go.Proofs.Ytocbebkcpmodnaa
open Go.RowKit

namespace Lex
theorem Laid.head {E k a : Nat} {s t : List UInt8} {l : List Tk} (h : Laid E s ((k, t, a) :: l)) : ∃ g rest, s = g ++ (written k t ++ rest) ∧ skip false g = [] ∧ a = E + g.length ∧ written k t ≠ [] ∧ Laid (E + g.length + (written k t).length) rest l := by
  generalize hm : ((k, t, a) :: l : List Tk) = m at h
  cases h with
  | nil p s h => cases hm
  | cons p g w rest k' t' l' hg hw hn h =>
    cases hm
    subst hw
    exact ⟨g, rest, rfl, hg, rfl, hn, h⟩
theorem Laid.done {E : Nat} {s : List UInt8} (h : Laid E s []) : skip false s = [] := by
  cases h with
  | nil p s h => exact h
end Lex

set_option maxRecDepth 100000 in
set_option maxHeartbeats 4000000 in
theorem places_any (T : ByteArray) (W : World) : Calls Try.prog 4 #[.string T] W fun e w' => e = .returned (.bool true) ∧ Below W.heap.size W w' := by
  have HH := Lib.hid (head_any W)
  go_enter Try.func4, Try.ntmps4
  go_wp2_with fail
  refine HH.out.mono ?_
  rintro e w1 ⟨rfl, hb⟩
  have HB1 := Lib.hid hb
  clear hb HH
  by_cases h3 : 3000 < T.size
  · have hd : decide ((3000 : Int) < T.size) = true := decide_eq_true (by omega)
    go_wp2_with fail
    go_ret
    exact ⟨rfl, HB1.out⟩
  · have hd : decide ((3000 : Int) < T.size) = false := decide_eq_false (by omega)
    cases hx : Lex.lex T.data.toList with
    | error y =>
      obtain ⟨x, q⟩ := y
      have HL := Lib.hid (fun w => lex_bad T (by omega) x q hx w)
      have hqb : q < T.size := (Lex.begin hx (show T.size ≤ 4000 by omega)).1
      have hdq : decide ((q : Int) < T.size) = true := decide_eq_true (by omega)
      have hdq0 : decide ((0 : Int) ≤ q) = true := decide_eq_true (by omega)
      clear hx
      go_wp2_with fail
      refine (HL.out _).mono ?_
      rintro e w2 ⟨rfl, hx0, hb⟩
      have HB2 := Lib.hid (HB1.out.trans (hb.mono HB1.out.size))
      have hxe : ((x : Int) == 0) = false := by
        have : ((x : Int) == 0) = decide ((x : Int) = 0) := rfl
        rw [this, decide_eq_false]; omega
      clear hb HB1 hx0
      go_wp2_with fail
      go_ret
      exact ⟨by simp_all, HB2.out⟩
    | ok l =>
      have HL := Lib.hid (fun w => lex_ok T (by omega) l hx w)
      have HLd := Lib.hid (Lex.lexF_laid _ 0 0 T.data.toList l (Nat.lt_succ_self _) hx)
      have hT3 : T.size ≤ 3000 := by omega
      have hTl : T.data.toList.length = T.size := rfl
      have hfew := (Lex.lex_few hx).1
      clear hx
      go_wp2_with fail
      refine (HL.out _).mono ?_
      rintro e w2 ⟨ao, cap, rfl, ht, hb⟩
      have HB2 := Lib.hid (HB1.out.trans (hb.mono HB1.out.size))
      have HR := Lib.hid (toks_row ht)
      clear hb HB1 ht
      obtain ⟨n, Hn⟩ : ∃ n, Hid (n = l.length) := ⟨_, Lib.hid rfl⟩
      have hn3 : n ≤ 3000 := by rw [Hn.out]; omega
      rw [← Hn.out]
      go_wp2_with fail
      go_loopw [8, 7] (fun i b wr => ∃ (k E : Nat), k ≤ n ∧ E ≤ T.size ∧ i = .int .i64 k ∧ b = .int .i64 E ∧ Hid (Below w2.heap.size w2 wr ∧ Lex.Laid E (T.data.toList.drop E) (l.drop k))) (fun i _ _ => n - (intOf i).toNat)
      case atStart => exact ⟨0, 0, Nat.zero_le _, Nat.zero_le _, by go_num, by go_num, Lib.hid ⟨Below.refl _ _, HLd.out⟩⟩
      case round =>
        obtain ⟨k, E, hk, hE, rfl, rfl, HI⟩ := hrel
        by_cases hkn : k < n
        · have hd5 : decide ((k : Int) < n) = true := decide_eq_true (by omega)
          have hb0 : (0 : Int) ≤ k := by omega
          have hb1 : (k : Int) < n := by omega
          have hkl : k < l.length := by rw [← Hn.out]; exact hkn
          obtain ⟨⟨kk, t, a⟩, hx⟩ : ∃ x, l[k]? = some x := ⟨_, List.getElem?_eq_getElem hkl⟩
          have hdr : l.drop k = (kk, t, a) :: l.drop (k + 1) := by
            rw [← List.getElem_cons_drop (h := hkl)]
            congr 1
            rw [List.getElem?_eq_getElem hkl] at hx
            exact Option.some.inj hx
          have hLd := HI.out.2
          rw [hdr] at hLd
          obtain ⟨g0, rest, h1, h2, h4, h5, h6⟩ := hLd.head
          obtain ⟨Y, HY⟩ : ∃ Y : ByteArray, Hid (Y = ⟨(Lex.written kk t).toArray⟩) := ⟨_, Lib.hid rfl⟩
          have hYs : Y.size = (Lex.written kk t).length := by rw [HY.out, Lex.size_list]
          have hY1 : 1 ≤ Y.size := by
            rw [hYs]
            cases hw : Lex.written kk t with
            | nil => exact absurd hw h5
            | cons c w => simp
          have hlen := congrArg List.length h1
          rw [List.length_drop, List.length_append, List.length_append, hTl, ← hYs] at hlen
          have hda : T.data.toList.drop a = Lex.written kk t ++ rest := by
            rw [h4, ← List.drop_drop, h1, List.drop_left]
          have e1 : T.extract a (a + Y.size) = Y := by
            rw [Lex.extract_list, Nat.add_sub_cancel_left, hda, hYs, List.take_left, HY.out]
          obtain ⟨G, HG⟩ : ∃ G : ByteArray, Hid (G = ⟨g0.toArray⟩) := ⟨_, Lib.hid rfl⟩
          have e2 : T.extract E a = G := by
            rw [Lex.extract_list, h1, h4, Nat.add_sub_cancel_left, List.take_left, HG.out]
          have hGs : G.size ≤ 100000 := by rw [HG.out, Lex.size_list]; omega
          have HGp : Hid (∀ w, Calls Try.prog 19 #[.string G] w fun e w' => e = .returned (.bool true) ∧ w = w') := Lib.hid fun w => by
            have := gaps_any G hGs w
            have e : G.data.toList = g0 := by rw [HG.out]
            rw [e, decide_eq_true h2] at this
            exact this
          have HNx : Hid (Lex.Laid (a + Y.size) (T.data.toList.drop (a + Y.size)) (l.drop (k + 1))) := Lib.hid (by
            rw [← List.drop_drop, hda, hYs, List.drop_left, h4]
            exact h6)
          obtain ⟨g, off, rfl, hg, a0, a1, a2⟩ := HR.out k kk t a hx
          obtain ⟨X, HX⟩ : ∃ X : ByteArray, Hid (X = ⟨t.toArray⟩) := ⟨_, Lib.hid rfl⟩
          rw [← HX.out] at a1
          replace a0 := (cell_below HI.out.1 hg _).trans a0
          replace a1 := (cell_below HI.out.1 hg _).trans a1
          replace a2 := (cell_below HI.out.1 hg _).trans a2
          have d1 : decide ((a : Int) < E) = false := decide_eq_false (by omega)
          have d2 : ((Y.size : Int) == 0) = false := by
            have : ((Y.size : Int) == 0) = decide ((Y.size : Int) = 0) := rfl
            rw [this, decide_eq_false]; omega
          have d3 : decide ((T.size : Int) < (a : Int) + Y.size) = false := decide_eq_false (by omega)
          have c1 : (0 : Int) ≤ a := by omega
          have c2 : (a : Int) ≤ a + Y.size := by omega
          have c3 : (a : Int) + Y.size ≤ T.size := by omega
          have c4 : (E : Int) ≤ a := by omega
          have c5 : (a : Int) ≤ T.size := by omega
          have c6 : (0 : Int) ≤ E := by omega
          have cN : a + Y.size ≤ T.size := by omega
          by_cases hk3 : kk = 3
          · have b3 : ((kk : Int) == 3) = true := by rw [hk3]; rfl
            have hXs : X.size ≤ 100000000 := by
              have h7 : t.length ≤ (Lex.written kk t).length := by
                unfold Lex.written
                rw [if_pos hk3]
                unfold Lex.quote
                rw [List.length_cons, List.length_append]
                have := (Lex.enc_len t).1
                omega
              have h8 : X.size = t.length := by rw [HX.out, Lex.size_list]
              omega
            have HQ := Lib.hid (fun w => quote_any X hXs w)
            have hXl : (⟨(Lex.quote X.data.toList).toArray⟩ : ByteArray) = Y := by
              have e : X.data.toList = t := by rw [HX.out]
              rw [HY.out, e]; unfold Lex.written; rw [if_pos hk3]
            rw [hXl] at HQ
            clear hx hdr hLd h1 h2 h4 h5 h6 hlen hda hk3 hXl hXs hkl hGs hYs
            go_wp2_with fail
            refine (HQ.out _).mono ?_
            rintro e w3 ⟨rfl, hb⟩
            have HB3 := Lib.hid (HI.out.1.trans (hb.mono HI.out.1.size))
            clear hb
            go_wp2_with fail
            refine (HGp.out _).mono ?_
            rintro e w4 ⟨rfl, hw⟩
            subst hw
            go_wp2_with fail
            go_round
            case rel => exact ⟨k + 1, a + Y.size, by omega, cN, by go_num, by go_num, Lib.hid ⟨HB3.out, HNx.out⟩⟩
            case measure => simp [intOf]; omega
          · have b3 : ((kk : Int) == 3) = false := by
              have : ((kk : Int) == 3) = decide ((kk : Int) = 3) := rfl
              rw [this, decide_eq_false]; omega
            have hXl : X = Y := by
              rw [HX.out, HY.out]; unfold Lex.written; rw [if_neg hk3]
            rw [hXl] at a1
            clear hx hdr hLd h1 h2 h4 h5 h6 hlen hda hk3 hXl hkl hGs hYs
            go_wp2_with fail
            refine (HGp.out _).mono ?_
            rintro e w4 ⟨rfl, hw⟩
            subst hw
            go_wp2_with fail
            go_round
            case rel => exact ⟨k + 1, a + Y.size, by omega, cN, by go_num, by go_num, Lib.hid ⟨HI.out.1, HNx.out⟩⟩
            case measure => simp [intOf]; omega
        · have hkk : k = l.length := by rw [← Hn.out]; omega
          have hd5 : decide ((k : Int) < n) = false := decide_eq_false (by omega)
          have hLd := HI.out.2
          rw [hkk, List.drop_length] at hLd
          have h2 := hLd.done
          obtain ⟨G, HG⟩ : ∃ G : ByteArray, Hid (G = T.extract E T.size) := ⟨_, Lib.hid rfl⟩
          have hGl : G.data.toList = T.data.toList.drop E := by
            rw [HG.out, Lex.extract_list]
            exact List.take_of_length_le (by rw [List.length_drop]; exact Nat.le_refl _)
          have hGs : G.size ≤ 100000 := by rw [HG.out, Lex.extract_list, Lex.size_list, List.length_take]; omega
          have HGp : Hid (∀ w, Calls Try.prog 19 #[.string G] w fun e w' => e = .returned (.bool true) ∧ w = w') := Lib.hid fun w => by
            have := gaps_any G hGs w
            rw [hGl, decide_eq_true h2] at this
            exact this
          have e2 : T.extract E T.size = G := HG.out.symm
          have c6 : (0 : Int) ≤ E := by omega
          have c7 : (E : Int) ≤ T.size := by omega
          clear hkk hLd h2 hGl hGs
          go_wp2_with fail
          refine (HGp.out _).mono ?_
          rintro e w4 ⟨rfl, hw⟩
          subst hw
          go_wp2_with fail
          go_ret
          exact ⟨rfl, HB2.out.trans (HI.out.1.mono HB2.out.size)⟩

end Go.Proofs.Ytocbebkcpmodnaa
