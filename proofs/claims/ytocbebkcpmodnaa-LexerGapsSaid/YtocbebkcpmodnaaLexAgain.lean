/- LexerAgain. -/
import Derived.Test.YtocbebkcpmodnaaLexRefQ
import Derived.Test.YtocbebkcpmodnaaLexParts
namespace Go.Proofs.Ytocbebkcpmodnaa
open Go.RowKit

namespace Lex
theorem wrote_app (a b : List Tk) : wrote (a ++ b) = wrote a ++ wrote b := by unfold wrote; rw [List.flatMap_append]
theorem wrote_few {p : Nat} {s : List UInt8} {l : List Tk} (h : Laid p s l) : (wrote l).length ≤ 2 * s.length := by
  induction h with
  | nil p s h => exact Nat.zero_le _
  | cons p g w rest k t l hg hw hn h ih =>
    have hw1 : 1 ≤ w.length := by
      cases w with
      | nil => exact absurd rfl hn
      | cons c w => simp
    have e : wrote ((k, t, p + g.length) :: l) = written k t ++ [32] ++ wrote l := rfl
    rw [e, List.length_append, List.length_append, List.length_append, List.length_append, ← hw]
    simp only [List.length_cons, List.length_nil]
    omega
theorem wrote_take {l : List Tk} {j k a : Nat} {t : List UInt8} (h : l[j]? = some (k, t, a)) : wrote (l.take (j + 1)) = wrote (l.take j) ++ (written k t ++ [32]) := by
  rw [List.take_add_one, h, wrote_app]
  show _ ++ (written k t ++ [32] ++ []) = _
  rw [List.append_nil]
theorem wrote_le (l : List Tk) (j : Nat) : (wrote (l.take j)).length ≤ (wrote l).length := by
  have h : wrote l = wrote (l.take j) ++ wrote (l.drop j) := by rw [← wrote_app, List.take_append_drop]
  rw [h, List.length_append]; omega
end Lex

set_option maxRecDepth 100000 in
set_option maxHeartbeats 4000000 in
theorem refWritten_any (k a : Nat) (X : ByteArray) (hX : X.size ≤ 100000000) (W : World) :
    Calls Try.prog 22 #[.agg #[.int .i64 (k : Int), .string X, .int .i64 (a : Int)]] W fun e w' => e = .returned (.string ⟨(Lex.written k X.data.toList).toArray⟩) ∧ Below W.heap.size W w' := by
  have HQ := Lib.hid (fun w => refQuote_any X hX w)
  have hb : Below W.heap.size W (W.alloc (.cells #[.int .i64 (k : Int), .string X, .int .i64 (a : Int)] 31)) := (Below.refl _ _).alloc (Nat.le_refl _) _
  have HB := Lib.hid hb
  clear hb
  by_cases h3 : k = 3
  · have e3 : ((k : Int) == 3) = true := by rw [h3]; rfl
    have hw : Lex.written k X.data.toList = Lex.quote X.data.toList := by unfold Lex.written; rw [if_pos h3]
    rw [hw]
    clear h3 hw
    go_enter Try.func22, Try.ntmps22
    go_wp2_with fail
    refine (HQ.out _).mono ?_
    rintro e w2 ⟨rfl, hw2⟩
    subst hw2
    go_wp2_with fail
    go_ret
    exact ⟨rfl, HB.out⟩
  · have e3 : ((k : Int) == 3) = false := by
      have : ((k : Int) == 3) = decide ((k : Int) = 3) := rfl
      rw [this, decide_eq_false]; omega
    have hw : Lex.written k X.data.toList = X.data.toList := by unfold Lex.written; rw [if_neg h3]
    rw [hw, bytes_back]
    clear h3 hw
    go_enter Try.func22, Try.ntmps22
    go_wp2_with fail
    go_ret
    exact ⟨rfl, HB.out⟩

set_option maxRecDepth 100000 in
set_option maxHeartbeats 4000000 in
theorem written_any (p : Option Addr) (c : Nat) (l : List Lex.Tk) (hl : (Lex.wrote l).length ≤ 100000) (hln : l.length ≤ 100000) (W : World) (h : TokRow W p l) :
    Calls Try.prog 20 #[.slice p l.length c] W fun e w' => e = .returned (.string ⟨(Lex.wrote l).toArray⟩) ∧ Below W.heap.size W w' := by
  have HT := Lib.hid h
  clear h
  obtain ⟨n, Hn⟩ : ∃ n, Hid (n = l.length) := ⟨_, Lib.hid rfl⟩
  rw [← Hn.out] at hln
  rw [← Hn.out]
  go_enter Try.func20, Try.ntmps20
  go_wp2_with fail
  go_loopw [4, 3] (fun i s wr => ∃ (k : Nat) (out : ByteArray), k ≤ n ∧ i = .int .i64 k ∧ s = .string out ∧ Hid (Below W.heap.size W wr ∧ out = ⟨(Lex.wrote (l.take k)).toArray⟩)) (fun i _ _ => n - (intOf i).toNat)
  case atStart => exact ⟨0, ⟨#[]⟩, Nat.zero_le _, by go_num, rfl, Lib.hid ⟨Below.refl _ _, by rw [List.take_zero]; rfl⟩⟩
  case round =>
    obtain ⟨k, out, hk, rfl, rfl, HR⟩ := hrel
    by_cases hkn : k < n
    · have hd : decide ((k : Int) < n) = true := decide_eq_true (by omega)
      have hb0 : (0 : Int) ≤ k := by omega
      have hb1 : (k : Int) < n := by omega
      obtain ⟨⟨kk, t, a⟩, hx⟩ : ∃ x, l[k]? = some x := ⟨_, List.getElem?_eq_getElem (by rw [← Hn.out]; exact hkn)⟩
      obtain ⟨g, off, rfl, hg, a0, a1, a2⟩ := HT.out kk |> fun _ => HT.out k kk t a hx
      obtain ⟨X, HX⟩ : ∃ X : ByteArray, Hid (X = ⟨t.toArray⟩) := ⟨_, Lib.hid rfl⟩
      rw [← HX.out] at a1
      replace a0 := (cell_below HR.out.1 hg _).trans a0
      replace a1 := (cell_below HR.out.1 hg _).trans a1
      replace a2 := (cell_below HR.out.1 hg _).trans a2
      have hXl : X.data.toList = t := by rw [HX.out]
      have hlen := congrArg List.length (Lex.wrote_take hx)
      rw [List.length_append, List.length_append] at hlen
      have hle := Lex.wrote_le l (k + 1)
      have hos : out.size = (Lex.wrote (l.take k)).length := by rw [HR.out.2, Lex.size_list]
      obtain ⟨Y, HY⟩ : ∃ Y : ByteArray, Hid (Y = ⟨(Lex.written kk X.data.toList).toArray⟩) := ⟨_, Lib.hid rfl⟩
      have hYs : Y.size = (Lex.written kk t).length := by rw [HY.out, Lex.size_list, hXl]
      have hXs : X.size ≤ 100000000 := by
        have h1 : t.length ≤ (Lex.written kk t).length := by
          unfold Lex.written
          split
          · unfold Lex.quote
            rw [List.length_cons, List.length_append]
            have := (Lex.enc_len t).1
            omega
          · exact Nat.le_refl _
        have h2 : X.size = t.length := by rw [HX.out, Lex.size_list]
        omega
      have HW := Lib.hid (fun w => refWritten_any kk a X hXs w)
      rw [← HY.out] at HW
      have hq1 : ¬ (9223372036854775807 < Y.size + 1) := by omega
      have hq2 : ¬ (9223372036854775807 < out.size + (Y.size + 1)) := by omega
      have HN : Hid (out ++ (Y ++ ⟨#[32]⟩) = ⟨(Lex.wrote (l.take (k + 1))).toArray⟩) := Lib.hid (by
        rw [← bytes_back (out ++ (Y ++ ⟨#[32]⟩)), Lex.app_list, Lex.app_list, Lex.wrote_take hx, HR.out.2, HY.out, hXl])
      clear hx hlen hle hos hYs hXs hXl
      go_wp2_with fail
      refine (HW.out _).mono ?_
      rintro e w2 ⟨rfl, hb⟩
      have HB2 := Lib.hid (HR.out.1.trans (hb.mono HR.out.1.size))
      clear hb
      go_wp2_with fail
      go_round
      case rel => exact ⟨k + 1, _, by omega, by go_num, rfl, Lib.hid ⟨HB2.out, HN.out⟩⟩
      case measure => simp [intOf]; omega
    · have hd : decide ((k : Int) < n) = false := decide_eq_false (by omega)
      have hkk : k = l.length := by rw [← Hn.out]; omega
      have HO := HR.out.2
      rw [hkk, List.take_length] at HO
      clear hkk
      go_wp2_with fail
      go_ret
      exact ⟨by rw [← HO]; rfl, HR.out.1⟩

set_option maxRecDepth 100000 in
set_option maxHeartbeats 4000000 in
theorem alike_true (pa pb : Option Addr) (ca cb : Nat) (l r : List Lex.Tk) (hr : Lex.alike l r) (hln : l.length ≤ 100000) (W : World) (ha : TokRow W pa l) (hb : TokRow W pb r) :
    Calls Try.prog 21 #[.slice pa l.length ca, .slice pb r.length cb] W fun e w' => e = .returned (.bool true) ∧ Below W.heap.size W w' := by
  have HA := Lib.hid ha
  have HB := Lib.hid hb
  have HAl := Lib.hid hr
  have hlen : r.length = l.length := by have := congrArg List.length hr; simpa using this.symm
  clear ha hb hr
  rw [hlen]
  obtain ⟨n, Hn⟩ : ∃ n, Hid (n = l.length) := ⟨_, Lib.hid rfl⟩
  rw [← Hn.out] at hln
  rw [← Hn.out]
  clear hlen
  go_enter Try.func21, Try.ntmps21
  go_wp2_with fail
  go_loopw [5] (fun i wr => ∃ k : Nat, k ≤ n ∧ i = .int .i64 k ∧ Hid (Below W.heap.size W wr)) (fun i _ => n - (intOf i).toNat)
  case atStart => exact ⟨0, Nat.zero_le _, by go_num, Lib.hid (Below.refl _ _)⟩
  case round =>
    obtain ⟨k, hk, rfl, HR⟩ := hrel
    by_cases hkn : k < n
    · have hd : decide ((k : Int) < n) = true := decide_eq_true (by omega)
      have hb0 : (0 : Int) ≤ k := by omega
      have hb1 : (k : Int) < n := by omega
      obtain ⟨⟨kk, t, a⟩, hx⟩ : ∃ x, l[k]? = some x := ⟨_, List.getElem?_eq_getElem (by rw [← Hn.out]; exact hkn)⟩
      obtain ⟨b, hy⟩ : ∃ b, r[k]? = some (kk, t, b) := by
        have h1 : (l.map fun x => (x.1, x.2.1))[k]? = (r.map fun x => (x.1, x.2.1))[k]? := by rw [show l.map (fun x => (x.1, x.2.1)) = r.map (fun x => (x.1, x.2.1)) from HAl.out]
        rw [List.getElem?_map, List.getElem?_map, hx] at h1
        cases hy : r[k]? with
        | none => rw [hy] at h1; cases h1
        | some y =>
          rw [hy] at h1
          obtain ⟨y1, y2, y3⟩ := y
          cases h1
          exact ⟨y3, rfl⟩
      obtain ⟨g, off, rfl, hg, a0, a1, a2⟩ := HA.out k kk t a hx
      obtain ⟨g', off', rfl, hg', b0, b1, b2⟩ := HB.out k kk t b hy
      obtain ⟨X, HX⟩ : ∃ X : ByteArray, Hid (X = ⟨t.toArray⟩) := ⟨_, Lib.hid rfl⟩
      rw [← HX.out] at a1 b1
      replace a0 := (cell_below HR.out hg _).trans a0
      replace a1 := (cell_below HR.out hg _).trans a1
      replace b0 := (cell_below HR.out hg' _).trans b0
      replace b1 := (cell_below HR.out hg' _).trans b1
      clear hx hy a2 b2
      go_wp2_with fail
      go_quiet (fail)
      go_wp2_with fail
      go_round
      case rel => exact ⟨k + 1, by omega, by go_num, Lib.hid (HR.out.trans ((below_drewN wr nq).mono HR.out.size))⟩
      case measure => simp [intOf]; omega
    · have hd : decide ((k : Int) < n) = false := decide_eq_false (by omega)
      go_wp2_with fail
      go_ret
      exact ⟨rfl, HR.out⟩

theorem Lex.lex_wrote {s : List UInt8} {l : List Lex.Tk} (h : Lex.lex s = .ok l) (hs : s.length ≤ 2000) : (Lex.wrote l).length ≤ 4000 ∧ ∃ l', Lex.lex (Lex.wrote l) = .ok l' ∧ Lex.alike l l' := by
  have h1 := Lex.wrote_few (Lex.lexF_laid _ 0 0 s l (Nat.lt_succ_self _) h)
  exact ⟨by omega, Lex.lexF_wrote _ 0 0 s l (Nat.lt_succ_self _) h _ 0 0 (Nat.lt_succ_self _) (by omega)⟩

set_option maxRecDepth 100000 in
set_option maxHeartbeats 4000000 in
theorem again_any (T : ByteArray) (W : World) : Calls Try.prog 5 #[.string T] W fun e w' => e = .returned (.bool true) ∧ Below W.heap.size W w' := by
  have HH := Lib.hid (head_any W)
  go_enter Try.func5, Try.ntmps5
  go_wp2_with fail
  refine HH.out.mono ?_
  rintro e w1 ⟨rfl, hb⟩
  have HB1 := Lib.hid hb
  clear hb HH
  by_cases h3 : 2000 < T.size
  · have hd : decide ((2000 : Int) < T.size) = true := decide_eq_true (by omega)
    go_wp2_with fail
    go_ret
    exact ⟨rfl, HB1.out⟩
  · have hd : decide ((2000 : Int) < T.size) = false := decide_eq_false (by omega)
    cases hx : Lex.lex T.data.toList with
    | error y =>
      obtain ⟨x, q⟩ := y
      have HL := Lib.hid (fun w => lex_bad T (by omega) x q hx w)
      clear hx
      go_wp2_with fail
      refine (HL.out _).mono ?_
      rintro e w2 ⟨rfl, hx0, hb⟩
      have HB2 := Lib.hid (HB1.out.trans (hb.mono HB1.out.size))
      have hxe : ((x : Int) == 0) = false := by
        have : ((x : Int) == 0) = decide ((x : Int) = 0) := rfl
        rw [this, decide_eq_false]; omega
      clear hb HB1 hx0
      go_wp2_with fail
      go_ret
      exact ⟨rfl, HB2.out⟩
    | ok l =>
      have HL := Lib.hid (fun w => lex_ok T (by omega) l hx w)
      obtain ⟨hw4, l', hl', hal⟩ := Lex.lex_wrote hx (show T.size ≤ 2000 by omega)
      have hfew := (Lex.lex_few hx).1
      have hfw : l.length ≤ 2000 := by
        have : T.data.toList.length = T.size := rfl
        omega
      obtain ⟨V, HV⟩ : ∃ V : ByteArray, Hid (V = ⟨(Lex.wrote l).toArray⟩) := ⟨_, Lib.hid rfl⟩
      have hVs : V.size ≤ 20000 := by rw [HV.out, Lex.size_list]; omega
      have hVl : Lex.lex V.data.toList = .ok l' := by rw [HV.out]; exact hl'
      have HL2 := Lib.hid (fun w => lex_ok V hVs l' hVl w)
      have HW := Lib.hid (fun w p c h => written_any p c l (by omega) (by omega) w h)
      have HA := Lib.hid (fun w pa pb ca cb h1 h2 => alike_true pa pb ca cb l l' hal (by omega) w h1 h2)
      rw [← HV.out] at HW
      clear hx hw4 hl' hal hfew hfw hVs hVl
      go_wp2_with fail
      refine (HL.out _).mono ?_
      rintro e w2 ⟨ao, cap, rfl, ht, hb⟩
      have HB2 := Lib.hid (HB1.out.trans (hb.mono HB1.out.size))
      have HR := Lib.hid (toks_row ht)
      clear hb HB1 ht
      go_wp2_with fail
      refine (HW.out _ _ _ HR.out).mono ?_
      rintro e w3 ⟨rfl, hb⟩
      have HB3 := Lib.hid (HB2.out.trans (hb.mono HB2.out.size))
      have HR3 := Lib.hid (HR.out.below hb)
      clear hb HB2 HR
      go_wp2_with fail
      refine (HL2.out _).mono ?_
      rintro e w4 ⟨ao', cap', rfl, ht, hb⟩
      have HB4 := Lib.hid (HB3.out.trans (hb.mono HB3.out.size))
      have HR4 := Lib.hid (HR3.out.below hb)
      have HR5 := Lib.hid (toks_row ht)
      clear hb HB3 HR3 ht
      go_wp2_with fail
      refine (HA.out _ _ _ _ _ HR4.out HR5.out).mono ?_
      rintro e w5 ⟨rfl, hb⟩
      have HB5 := Lib.hid (HB4.out.trans (hb.mono HB4.out.size))
      clear hb HB4
      go_wp2_with fail
      go_ret
      exact ⟨rfl, HB5.out⟩

end Go.Proofs.Ytocbebkcpmodnaa
