/- The reference's next. -/
import Derived.Test.YtocbebkcpmodnaaLexRefL
namespace Go.Proofs.Ytocbebkcpmodnaa
open Go.RowKit

namespace Lex
/-- What next returns. -/
def nextV (T : ByteArray) (p : Nat) (r : Res) : Value := match r with
  | .ok k t rest => .tuple #[.agg #[.int .i64 (k : Int), .string ⟨t.toArray⟩, .int .i64 (p : Int)], .int .i64 ((T.size - rest.length : Nat) : Int), .int .i64 0]
  | .err e => .tuple #[.agg #[.int .i64 0, .string ⟨#[]⟩, .int .i64 0], .int .i64 0, .int .i64 (e : Int)]
/-- A stretch of bytes of one kind from an offset on, up to another. -/
def All (P : UInt8 → Bool) (T : ByteArray) (a q : Nat) : Prop := ∀ j, a ≤ j → (hj : j < q) → (hjT : j < T.size) → P T[j] = true
theorem All.more {P : UInt8 → Bool} {T : ByteArray} {a q : Nat} (h : All P T a q) (hq : q < T.size) (hp : P T[q] = true) : All P T a (q + 1) := fun j h1 h2 h3 => by
  rcases Nat.lt_or_ge j q with h4 | h4
  · exact h j h1 h4 h3
  · have : j = q := by omega
    subst this; exact hp
theorem All.stop {P : UInt8 → Bool} {T : ByteArray} {a q : Nat} (h : All P T a q) (h1 : a ≤ q) (h2 : q ≤ T.size) (h3 : ∀ h : q < T.size, P T[q] = false) :
    ((T.data.toList.drop a).takeWhile P).length = q - a ∧ (T.data.toList.drop a).dropWhile P = T.data.toList.drop q ∧ (T.data.toList.drop a).takeWhile P = (T.extract a q).data.toList := by
  have e : q = a + ((T.data.toList.drop a).takeWhile P).length := by
    by_cases hq : q < T.size
    · exact take_len h1 hq h (h3 hq)
    · exact take_all_len h1 h2 hq h
  have e2 : ((T.data.toList.drop a).takeWhile P).length = q - a := by omega
  refine ⟨e2, ?_, ?_⟩
  · rw [← drop_while, e2, List.drop_drop, show a + (q - a) = q by omega]
  · rw [extract_list, ← e2, take_while]
theorem cut_cons {T : ByteArray} {p q : Nat} (hp : p < T.size) (hq : p + 1 ≤ q) : T.extract p q = ⟨(T[p] :: (T.extract (p + 1) q).data.toList).toArray⟩ := by
  rw [extract_list, extract_list, drop_cons hp, show q - p = (q - (p + 1)) + 1 by omega, List.take_succ_cons]
theorem next_ok {T : ByteArray} {p q k : Nat} {t : ByteArray} {r : Res} (hq : q ≤ T.size) (h : r = .ok k t.data.toList (T.data.toList.drop q)) : nextV T p r = .tuple #[.agg #[.int .i64 (k : Int), .string t, .int .i64 (p : Int)], .int .i64 (q : Int), .int .i64 0] := by
  rw [h]; unfold nextV
  dsimp only
  rw [bytes_back, List.length_drop, show T.data.toList.length = T.size from rfl, show T.size - (T.size - q) = q by omega]
theorem next_name {T : ByteArray} {p q : Nat} (hp : p < T.size) (hl : isLetter T[p] = true) (h : All isWord T (p + 1) q) (h1 : p + 1 ≤ q) (h2 : q ≤ T.size) (h3 : ∀ h : q < T.size, isWord T[q] = false) :
    tok T[p] (T.data.toList.drop (p + 1)) = if 24 < q - p then .err 7 else .ok 1 (T.extract p q).data.toList (T.data.toList.drop q) := by
  obtain ⟨e1, e2, e3⟩ := h.stop h1 h2 h3
  rw [tok_letter hl, List.length_cons, e1, e2, e3, cut_cons hp h1, show q - (p + 1) + 1 = q - p by omega]
theorem next_number {T : ByteArray} {p q : Nat} (hp : p < T.size) (hl : isLetter T[p] = false) (hd : isDigit T[p] = true) (h : All isDigit T (p + 1) q) (h1 : p + 1 ≤ q) (h2 : q ≤ T.size) (h3 : ∀ h : q < T.size, isDigit T[q] = false) :
    tok T[p] (T.data.toList.drop (p + 1)) = if 7 < q - p ∨ wordAt (T.data.toList.drop q) = true then .err 11 else .ok 2 (T.extract p q).data.toList (T.data.toList.drop q) := by
  obtain ⟨e1, e2, e3⟩ := h.stop h1 h2 h3
  rw [tok_digit hl hd, List.length_cons, e1, e2, e3, cut_cons hp h1, show q - (p + 1) + 1 = q - p by omega]
theorem word_here {T : ByteArray} {q : Nat} (h : q < T.size) : wordAt (T.data.toList.drop q) = isWord T[q] := by rw [drop_cons h]; rfl
theorem word_past {T : ByteArray} {q : Nat} (h : ¬ q < T.size) : wordAt (T.data.toList.drop q) = false := by
  rw [List.drop_eq_nil_of_le (show T.data.toList.length ≤ q by show T.size ≤ q; omega)]; rfl
end Lex

theorem results_next {fn : Func} (h : fn.results = #[.cell 4 31, .tmp 5, .tmp 6]) (tmps : Array Value) (w : World) (A : Nat) (x y v0 v1 v2 : Value) (hw : Whole w A 31 #[v0, v1, v2]) (h4 : tmps.getD 4 undef = .pointer (some ⟨A, 0, none⟩)) (h5 : tmps.getD 5 undef = x) (h6 : tmps.getD 6 undef = y) :
    (results fn tmps).run Try.prog w = .ok (.tuple #[.agg #[v0, v1, v2], x, y]) w := by
  have c0 : w.cell? ⟨A, 0, none⟩ = some v0 := hw.cell 0
  have c1 : w.cell? ⟨A, 1, none⟩ = some v1 := hw.cell 1
  have c2 : w.cell? ⟨A, 2, none⟩ = some v2 := hw.cell 2
  simp only [results, h, List.mapM_toArray, List.mapM_cons, List.mapM_nil, h4, h5, h6]
  go_simp
theorem next_open {W V : World} {N : Nat} {z0 z1 z2 : Value} (hN : N = W.heap.size) (hV : V = W.alloc (.cells #[z0, z1, z2] 31)) : Whole V N 31 #[z0, z1, z2] ∧ Below N W V := by
  subst hN hV
  exact ⟨Whole.new _ _ _, (Below.refl _ _).alloc (Nat.le_refl _) _⟩
theorem next_fin {W V : World} {N : Nat} {z0 z1 z2 : Value} (hN : N = W.heap.size) (h : Whole V N 31 #[z0, z1, z2] ∧ Below N W V) (x s q : Value) :
    Whole (((V.setCell ⟨N, 0, none⟩ x).setCell ⟨N, 1, none⟩ s).setCell ⟨N, 2, none⟩ q) N 31 #[x, s, q] ∧ Below W.heap.size W (((V.setCell ⟨N, 0, none⟩ x).setCell ⟨N, 1, none⟩ s).setCell ⟨N, 2, none⟩ q) :=
  by
  subst hN
  exact ⟨((h.1.set 0 x).set 1 s).set 2 q, ((h.2.setCell (p := ⟨W.heap.size, 0, none⟩) (Nat.le_refl _) x).setCell (p := ⟨W.heap.size, 1, none⟩) (Nat.le_refl _) s).setCell (p := ⟨W.heap.size, 2, none⟩) (Nat.le_refl _) q⟩

set_option maxRecDepth 100000 in
set_option maxHeartbeats 8000000 in
theorem next_any (T : ByteArray) (hT : T.size ≤ 100000) (p : Nat) (hp : p < T.size) (W : World) :
    Calls Try.prog 27 #[.string T, .int .i64 (p : Int)] W fun e w' => e = .returned (Lex.nextV T p (Lex.tok T[p] (T.data.toList.drop (p + 1)))) ∧ Below W.heap.size W w' := by
  obtain ⟨v, Hv⟩ : ∃ v, Hid (v = Lex.nextV T p (Lex.tok T[p] (T.data.toList.drop (p + 1)))) := ⟨_, Lib.hid rfl⟩
  rw [← Hv.out]
  obtain ⟨c, Hc⟩ : ∃ c, Hid (c = T[p]) := ⟨_, Lib.hid rfl⟩
  have hTc : T[p] = c := Hc.out.symm
  have hb0 : (0 : Int) ≤ p := by omega
  have hb1 : (p : Int) < (T.size : Int) := by omega
  have HLe := Lib.hid (fun w => refLetter_any c w)
  have HDi := Lib.hid (fun w => refDigit_any c w)
  cases hle : Lex.isLetter c with
  | true =>
    rw [hle] at HLe
    go_enter Try.func27, Try.ntmps27
    go_wp2_with fail
    refine (HLe.out _).mono ?_
    rintro e w' ⟨rfl, hw'⟩
    subst hw'
    obtain ⟨N, HN⟩ : ∃ N, Hid (N = W.heap.size) := ⟨_, Lib.hid rfl⟩
    obtain ⟨V, HV⟩ : ∃ V, Hid (V = W.alloc (.cells #[.int .i64 0, .string ⟨#[]⟩, .int .i64 0] 31)) := ⟨_, Lib.hid rfl⟩
    have HO := Lib.hid (next_open HN.out HV.out)
    have f0 := HO.out.1.frozen 0
    have f1 := HO.out.1.frozen 1
    have f2 := HO.out.1.frozen 2
    have z0 : V.cell? ⟨N, 0, none⟩ = some (.int .i64 0) := HO.out.1.cell 0
    have z1 : V.cell? ⟨N, 1, none⟩ = some (.string ⟨#[]⟩) := HO.out.1.cell 1
    have z2 : V.cell? ⟨N, 2, none⟩ = some (.int .i64 0) := HO.out.1.cell 2
    rw [← HV.out, ← HN.out]
    go_wp2_with fail
    go_loopw [7] (fun i wr => ∃ q : Nat, p + 1 ≤ q ∧ q ≤ T.size ∧ wr = V ∧ i = .int .i64 q ∧ Hid (Lex.All Lex.isWord T (p + 1) q)) (fun i _ => T.size - (intOf i).toNat)
    case atStart => exact ⟨p + 1, Nat.le_refl _, hp, rfl, by go_num, Lib.hid fun j h1 h2 _ => by omega⟩
    case round =>
      obtain ⟨q, hq1, hq, hw, rfl, HR⟩ := hrel
      replace hw := hw.symm
      subst hw
      have fin : (∀ h : q < T.size, Lex.isWord T[q] = false) → (24 < q - p → v = .tuple #[.agg #[.int .i64 0, .string ⟨#[]⟩, .int .i64 0], .int .i64 0, .int .i64 7]) ∧ (¬ 24 < q - p → v = .tuple #[.agg #[.int .i64 1, .string (T.extract p q), .int .i64 (p : Int)], .int .i64 (q : Int), .int .i64 0]) := fun h3 => by
        have h4 := Lex.next_name hp (by rw [hTc]; exact hle) HR.out hq1 hq h3
        refine ⟨fun h => ?_, fun h => ?_⟩
        · rw [if_pos h] at h4; rw [Hv.out, h4]; rfl
        · rw [if_neg h] at h4; rw [Hv.out, Lex.next_ok hq h4]; rfl
      have HF := Lib.hid fin
      clear fin
      have hpq : (p : Int) ≤ q := by omega
      have hqT' : (q : Int) ≤ T.size := by omega
      by_cases hqT : q < T.size
      · have hd : decide ((q : Int) < (T.size : Int)) = true := decide_eq_true (by omega)
        have hc0 : (0 : Int) ≤ q := by omega
        have hc1 : (q : Int) < (T.size : Int) := by omega
        obtain ⟨x, Hx⟩ : ∃ c, Hid (c = T[q]) := ⟨_, Lib.hid rfl⟩
        have hTx : T[q] = x := Hx.out.symm
        have HW := Lib.hid (fun w => refWord_any x w)
        cases hwx : Lex.isWord x with
        | true =>
          rw [hwx] at HW
          have HN := Lib.hid (HR.out.more hqT (by rw [hTx]; exact hwx))
          clear hwx
          go_wp2_with fail
          refine (HW.out _).mono ?_
          rintro e w' ⟨rfl, hw'⟩
          subst hw'
          go_wp2_with fail
          go_round
          case rel => exact ⟨q + 1, by omega, by omega, trivial, by go_num, HN⟩
          case measure => simp [intOf]; omega
        | false =>
          rw [hwx] at HW
          obtain ⟨f1, f2⟩ := HF.out (fun h => by rw [hTx]; exact hwx)
          by_cases h24 : 24 < q - p
          · have hd24 : decide ((24 : Int) < (q : Int) - p) = true := decide_eq_true (by omega)
            have hv := f1 h24
            subst hv
            clear f1 f2 h24 hwx
            go_wp2_with fail
            refine (HW.out _).mono ?_
            rintro e w' ⟨rfl, hw'⟩
            subst hw'
            go_wp2_with fail
            exact bodyPost_ret (results_next rfl _ _ _ _ _ _ _ _ (next_fin HN.out HO.out _ _ _).1 rfl rfl rfl) rfl ⟨rfl, (next_fin HN.out HO.out _ _ _).2⟩
          · have hd24 : decide ((24 : Int) < (q : Int) - p) = false := decide_eq_false (by omega)
            have hv := f2 h24
            subst hv
            clear f1 f2 h24 hwx
            go_wp2_with fail
            refine (HW.out _).mono ?_
            rintro e w' ⟨rfl, hw'⟩
            subst hw'
            go_wp2_with fail
            exact bodyPost_ret (results_next rfl _ _ _ _ _ _ _ _ (next_fin HN.out HO.out _ _ _).1 rfl rfl rfl) rfl ⟨rfl, (next_fin HN.out HO.out _ _ _).2⟩
      · have hd : decide ((q : Int) < (T.size : Int)) = false := decide_eq_false (by omega)
        obtain ⟨f1, f2⟩ := HF.out (fun h => absurd h hqT)
        by_cases h24 : 24 < q - p
        · have hd24 : decide ((24 : Int) < (q : Int) - p) = true := decide_eq_true (by omega)
          have hv := f1 h24
          subst hv
          clear f1 f2 h24
          go_wp2_with fail
          exact bodyPost_ret (results_next rfl _ _ _ _ _ _ _ _ (next_fin HN.out HO.out _ _ _).1 rfl rfl rfl) rfl ⟨rfl, (next_fin HN.out HO.out _ _ _).2⟩
        · have hd24 : decide ((24 : Int) < (q : Int) - p) = false := decide_eq_false (by omega)
          have hv := f2 h24
          subst hv
          clear f1 f2 h24
          go_wp2_with fail
          exact bodyPost_ret (results_next rfl _ _ _ _ _ _ _ _ (next_fin HN.out HO.out _ _ _).1 rfl rfl rfl) rfl ⟨rfl, (next_fin HN.out HO.out _ _ _).2⟩
  | false =>
  rw [hle] at HLe
  cases hdi : Lex.isDigit c with
  | true =>
    rw [hdi] at HDi
    go_enter Try.func27, Try.ntmps27
    go_wp2_with fail
    refine (HLe.out _).mono ?_
    rintro e w' ⟨rfl, hw'⟩
    subst hw'
    obtain ⟨N, HN⟩ : ∃ N, Hid (N = W.heap.size) := ⟨_, Lib.hid rfl⟩
    obtain ⟨V, HV⟩ : ∃ V, Hid (V = W.alloc (.cells #[.int .i64 0, .string ⟨#[]⟩, .int .i64 0] 31)) := ⟨_, Lib.hid rfl⟩
    have HO := Lib.hid (next_open HN.out HV.out)
    have f0 := HO.out.1.frozen 0
    have f1 := HO.out.1.frozen 1
    have f2 := HO.out.1.frozen 2
    have z0 : V.cell? ⟨N, 0, none⟩ = some (.int .i64 0) := HO.out.1.cell 0
    have z1 : V.cell? ⟨N, 1, none⟩ = some (.string ⟨#[]⟩) := HO.out.1.cell 1
    have z2 : V.cell? ⟨N, 2, none⟩ = some (.int .i64 0) := HO.out.1.cell 2
    rw [← HV.out, ← HN.out]
    go_wp2_with fail
    refine (HDi.out _).mono ?_
    rintro e w' ⟨rfl, hw'⟩
    subst hw'
    go_wp2_with fail
    go_loopw [7] (fun i wr => ∃ q : Nat, p + 1 ≤ q ∧ q ≤ T.size ∧ wr = V ∧ i = .int .i64 q ∧ Hid (Lex.All Lex.isDigit T (p + 1) q)) (fun i _ => T.size - (intOf i).toNat)
    case atStart => exact ⟨p + 1, Nat.le_refl _, hp, rfl, by go_num, Lib.hid fun j h1 h2 _ => by omega⟩
    case round =>
      obtain ⟨q, hq1, hq, hw, rfl, HR⟩ := hrel
      replace hw := hw.symm
      subst hw
      have fin : (∀ h : q < T.size, Lex.isDigit T[q] = false) → (7 < q - p ∨ Lex.wordAt (T.data.toList.drop q) = true → v = .tuple #[.agg #[.int .i64 0, .string ⟨#[]⟩, .int .i64 0], .int .i64 0, .int .i64 11]) ∧ (¬ (7 < q - p ∨ Lex.wordAt (T.data.toList.drop q) = true) → v = .tuple #[.agg #[.int .i64 2, .string (T.extract p q), .int .i64 (p : Int)], .int .i64 (q : Int), .int .i64 0]) := fun h3 => by
        have h4 := Lex.next_number hp (by rw [hTc]; exact hle) (by rw [hTc]; exact hdi) HR.out hq1 hq h3
        refine ⟨fun h => ?_, fun h => ?_⟩
        · rw [if_pos h] at h4; rw [Hv.out, h4]; rfl
        · rw [if_neg h] at h4; rw [Hv.out, Lex.next_ok hq h4]; rfl
      have HF := Lib.hid fin
      clear fin
      have hpq : (p : Int) ≤ q := by omega
      have hqT' : (q : Int) ≤ T.size := by omega
      by_cases hqT : q < T.size
      · have hd : decide ((q : Int) < (T.size : Int)) = true := decide_eq_true (by omega)
        have hc0 : (0 : Int) ≤ q := by omega
        have hc1 : (q : Int) < (T.size : Int) := by omega
        obtain ⟨x, Hx⟩ : ∃ c, Hid (c = T[q]) := ⟨_, Lib.hid rfl⟩
        have hTx : T[q] = x := Hx.out.symm
        have HD := Lib.hid (fun w => refDigit_any x w)
        have HW := Lib.hid (fun w => refWord_any x w)
        cases hwx : Lex.isDigit x with
        | true =>
          rw [hwx] at HD
          have HN := Lib.hid (HR.out.more hqT (by rw [hTx]; exact hwx))
          clear hwx
          go_wp2_with fail
          refine (HD.out _).mono ?_
          rintro e w' ⟨rfl, hw'⟩
          subst hw'
          go_wp2_with fail
          go_round
          case rel => exact ⟨q + 1, by omega, by omega, trivial, by go_num, HN⟩
          case measure => simp [intOf]; omega
        | false =>
          rw [hwx] at HD
          obtain ⟨f1, f2⟩ := HF.out (fun h => by rw [hTx]; exact hwx)
          rw [Lex.word_here hqT, hTx] at f1 f2
          by_cases h7 : 7 < q - p
          · have hd7 : decide ((7 : Int) < (q : Int) - p) = true := decide_eq_true (by omega)
            have hv := f1 (Or.inl h7)
            subst hv
            clear f1 f2 h7 hwx
            go_wp2_with fail
            refine (HD.out _).mono ?_
            rintro e w' ⟨rfl, hw'⟩
            subst hw'
            go_wp2_with fail
            exact bodyPost_ret (results_next rfl _ _ _ _ _ _ _ _ (next_fin HN.out HO.out _ _ _).1 rfl rfl rfl) rfl ⟨rfl, (next_fin HN.out HO.out _ _ _).2⟩
          · have hd7 : decide ((7 : Int) < (q : Int) - p) = false := decide_eq_false (by omega)
            cases hww : Lex.isWord x with
            | true =>
              rw [hww] at HW
              have hv := f1 (Or.inr hww)
              subst hv
              clear f1 f2 h7 hwx hww
              go_wp2_with fail
              refine (HD.out _).mono ?_
              rintro e w' ⟨rfl, hw'⟩
              subst hw'
              go_wp2_with fail
              refine (HW.out _).mono ?_
              rintro e w' ⟨rfl, hw'⟩
              subst hw'
              go_wp2_with fail
              exact bodyPost_ret (results_next rfl _ _ _ _ _ _ _ _ (next_fin HN.out HO.out _ _ _).1 rfl rfl rfl) rfl ⟨rfl, (next_fin HN.out HO.out _ _ _).2⟩
            | false =>
              rw [hww] at HW
              have hv := f2 (by rw [hww]; simp; omega)
              subst hv
              clear f1 f2 h7 hwx hww
              go_wp2_with fail
              refine (HD.out _).mono ?_
              rintro e w' ⟨rfl, hw'⟩
              subst hw'
              go_wp2_with fail
              refine (HW.out _).mono ?_
              rintro e w' ⟨rfl, hw'⟩
              subst hw'
              go_wp2_with fail
              exact bodyPost_ret (results_next rfl _ _ _ _ _ _ _ _ (next_fin HN.out HO.out _ _ _).1 rfl rfl rfl) rfl ⟨rfl, (next_fin HN.out HO.out _ _ _).2⟩
      · have hd : decide ((q : Int) < (T.size : Int)) = false := decide_eq_false (by omega)
        obtain ⟨f1, f2⟩ := HF.out (fun h => absurd h hqT)
        rw [Lex.word_past hqT] at f1 f2
        by_cases h7 : 7 < q - p
        · have hd7 : decide ((7 : Int) < (q : Int) - p) = true := decide_eq_true (by omega)
          have hv := f1 (Or.inl h7)
          subst hv
          clear f1 f2 h7
          go_wp2_with fail
          exact bodyPost_ret (results_next rfl _ _ _ _ _ _ _ _ (next_fin HN.out HO.out _ _ _).1 rfl rfl rfl) rfl ⟨rfl, (next_fin HN.out HO.out _ _ _).2⟩
        · have hd7 : decide ((7 : Int) < (q : Int) - p) = false := decide_eq_false (by omega)
          have hv := f2 (by simp; omega)
          subst hv
          clear f1 f2 h7
          go_wp2_with fail
          exact bodyPost_ret (results_next rfl _ _ _ _ _ _ _ _ (next_fin HN.out HO.out _ _ _).1 rfl rfl rfl) rfl ⟨rfl, (next_fin HN.out HO.out _ _ _).2⟩
  | false =>
  rw [hdi] at HDi
  have e34 : ((c.toNat : Int) == 34) = decide (c.toNat = 34) := Lex.byte_eq c 34
  by_cases h34 : c.toNat = 34
  · rw [decide_eq_true h34] at e34
    have HS := Lib.hid (fun w => str_any T hT p hp w)
    have hv1 := Lex.tok_quote (r := T.data.toList.drop (p + 1)) hle hdi h34
    rw [hTc, hv1] at Hv
    cases hs : Lex.strD (T.data.toList.drop (p + 1)) with
    | none =>
      have hS : Lex.strV T (p + 1) = .tuple #[.string ⟨#[]⟩, .int .i64 0, .bool false] := by unfold Lex.strV; rw [hs]
      rw [hS] at HS
      have hv : v = .tuple #[.agg #[.int .i64 0, .string ⟨#[]⟩, .int .i64 0], .int .i64 0, .int .i64 10] := by rw [Hv.out, hs]; rfl
      subst hv
      clear hs hS hv1 h34 Hv hle hdi
      go_enter Try.func27, Try.ntmps27
      go_wp2_with fail
      refine (HLe.out _).mono ?_
      rintro e w' ⟨rfl, hw'⟩
      subst hw'
      obtain ⟨N, HN⟩ : ∃ N, Hid (N = W.heap.size) := ⟨_, Lib.hid rfl⟩
      obtain ⟨V, HV⟩ : ∃ V, Hid (V = W.alloc (.cells #[.int .i64 0, .string ⟨#[]⟩, .int .i64 0] 31)) := ⟨_, Lib.hid rfl⟩
      have HO := Lib.hid (next_open HN.out HV.out)
      have f0 := HO.out.1.frozen 0
      have f1 := HO.out.1.frozen 1
      have f2 := HO.out.1.frozen 2
      have z0 : V.cell? ⟨N, 0, none⟩ = some (.int .i64 0) := HO.out.1.cell 0
      have z1 : V.cell? ⟨N, 1, none⟩ = some (.string ⟨#[]⟩) := HO.out.1.cell 1
      have z2 : V.cell? ⟨N, 2, none⟩ = some (.int .i64 0) := HO.out.1.cell 2
      rw [← HV.out, ← HN.out]
      go_wp2_with fail
      refine (HDi.out _).mono ?_
      rintro e w' ⟨rfl, hw'⟩
      subst hw'
      go_wp2_with fail
      refine (HS.out _).mono ?_
      rintro e w' ⟨rfl, hw'⟩
      subst hw'
      go_wp2_with fail
      exact bodyPost_ret (results_next rfl _ _ _ _ _ _ _ _ (next_fin HN.out HO.out _ _ _).1 rfl rfl rfl) rfl ⟨rfl, (next_fin HN.out HO.out _ _ _).2⟩
    | some x =>
      have hS : Lex.strV T (p + 1) = .tuple #[.string ⟨x.1.toArray⟩, .int .i64 ((T.size - x.2.length : Nat) : Int), .bool true] := by unfold Lex.strV; rw [hs]
      rw [hS] at HS
      have hv : v = .tuple #[.agg #[.int .i64 3, .string ⟨x.1.toArray⟩, .int .i64 (p : Int)], .int .i64 ((T.size - x.2.length : Nat) : Int), .int .i64 0] := by rw [Hv.out, hs]; rfl
      subst hv
      clear hs hS hv1 h34 Hv hle hdi
      go_enter Try.func27, Try.ntmps27
      go_wp2_with fail
      refine (HLe.out _).mono ?_
      rintro e w' ⟨rfl, hw'⟩
      subst hw'
      obtain ⟨N, HN⟩ : ∃ N, Hid (N = W.heap.size) := ⟨_, Lib.hid rfl⟩
      obtain ⟨V, HV⟩ : ∃ V, Hid (V = W.alloc (.cells #[.int .i64 0, .string ⟨#[]⟩, .int .i64 0] 31)) := ⟨_, Lib.hid rfl⟩
      have HO := Lib.hid (next_open HN.out HV.out)
      have f0 := HO.out.1.frozen 0
      have f1 := HO.out.1.frozen 1
      have f2 := HO.out.1.frozen 2
      have z0 : V.cell? ⟨N, 0, none⟩ = some (.int .i64 0) := HO.out.1.cell 0
      have z1 : V.cell? ⟨N, 1, none⟩ = some (.string ⟨#[]⟩) := HO.out.1.cell 1
      have z2 : V.cell? ⟨N, 2, none⟩ = some (.int .i64 0) := HO.out.1.cell 2
      rw [← HV.out, ← HN.out]
      go_wp2_with fail
      refine (HDi.out _).mono ?_
      rintro e w' ⟨rfl, hw'⟩
      subst hw'
      go_wp2_with fail
      refine (HS.out _).mono ?_
      rintro e w' ⟨rfl, hw'⟩
      subst hw'
      go_wp2_with fail
      exact bodyPost_ret (results_next rfl _ _ _ _ _ _ _ _ (next_fin HN.out HO.out _ _ _).1 rfl rfl rfl) rfl ⟨rfl, (next_fin HN.out HO.out _ _ _).2⟩
  rw [decide_eq_false h34] at e34
  have HY : Hid (∀ (w : World), Calls Try.prog 37 #[.string ⟨#[59, 44, 46, 58, 40, 41, 123, 125, 91, 93, 61, 60, 62, 47, 43, 45, 42]⟩, .int .u8 (c.toNat : Int)] w fun e w' => e = .returned (.bool (Lex.isSym c)) ∧ w = w') :=
    Lib.hid (fun w => (has_any ⟨#[59, 44, 46, 58, 40, 41, 123, 125, 91, 93, 61, 60, 62, 47, 43, 45, 42]⟩ (by decide) c w).mono fun e w' h => ⟨by rw [← Lex.sym_has]; exact h.1, h.2⟩)
  have hv1 := Lex.tok_rest (r := T.data.toList.drop (p + 1)) hle hdi h34
  rw [hTc, hv1] at Hv
  have hp1 : (p : Int) + 1 ≤ T.size := by omega
  have hp2 : (p : Int) ≤ (p : Int) + 1 := by omega
  cases hsy : Lex.isSym c with
  | false =>
    rw [hsy] at HY
    have hv : v = .tuple #[.agg #[.int .i64 0, .string ⟨#[]⟩, .int .i64 0], .int .i64 0, .int .i64 10] := by rw [Hv.out, hsy]; rfl
    subst hv
    clear hv1 h34 Hv hle hdi hsy
    go_enter Try.func27, Try.ntmps27
    go_wp2_with fail
    refine (HLe.out _).mono ?_
    rintro e w' ⟨rfl, hw'⟩
    subst hw'
    obtain ⟨N, HN⟩ : ∃ N, Hid (N = W.heap.size) := ⟨_, Lib.hid rfl⟩
    obtain ⟨V, HV⟩ : ∃ V, Hid (V = W.alloc (.cells #[.int .i64 0, .string ⟨#[]⟩, .int .i64 0] 31)) := ⟨_, Lib.hid rfl⟩
    have HO := Lib.hid (next_open HN.out HV.out)
    have f0 := HO.out.1.frozen 0
    have f1 := HO.out.1.frozen 1
    have f2 := HO.out.1.frozen 2
    have z0 : V.cell? ⟨N, 0, none⟩ = some (.int .i64 0) := HO.out.1.cell 0
    have z1 : V.cell? ⟨N, 1, none⟩ = some (.string ⟨#[]⟩) := HO.out.1.cell 1
    have z2 : V.cell? ⟨N, 2, none⟩ = some (.int .i64 0) := HO.out.1.cell 2
    rw [← HV.out, ← HN.out]
    go_wp2_with fail
    refine (HDi.out _).mono ?_
    rintro e w' ⟨rfl, hw'⟩
    subst hw'
    go_wp2_with fail
    refine (HY.out _).mono ?_
    rintro e w' ⟨rfl, hw'⟩
    subst hw'
    go_wp2_with fail
    exact bodyPost_ret (results_next rfl _ _ _ _ _ _ _ _ (next_fin HN.out HO.out _ _ _).1 rfl rfl rfl) rfl ⟨rfl, (next_fin HN.out HO.out _ _ _).2⟩
  | true =>
    rw [hsy] at HY
    have hv : v = .tuple #[.agg #[.int .i64 4, .string (T.extract p (p + 1)), .int .i64 (p : Int)], .int .i64 ((p : Int) + 1), .int .i64 0] := by
      rw [Hv.out, hsy, if_pos rfl, Lex.next_ok (q := p + 1) (t := T.extract p (p + 1)) hp (by rw [Lex.extract_one hp, hTc])]
      rfl
    subst hv
    clear hv1 h34 Hv hle hdi hsy
    go_enter Try.func27, Try.ntmps27
    go_wp2_with fail
    refine (HLe.out _).mono ?_
    rintro e w' ⟨rfl, hw'⟩
    subst hw'
    obtain ⟨N, HN⟩ : ∃ N, Hid (N = W.heap.size) := ⟨_, Lib.hid rfl⟩
    obtain ⟨V, HV⟩ : ∃ V, Hid (V = W.alloc (.cells #[.int .i64 0, .string ⟨#[]⟩, .int .i64 0] 31)) := ⟨_, Lib.hid rfl⟩
    have HO := Lib.hid (next_open HN.out HV.out)
    have f0 := HO.out.1.frozen 0
    have f1 := HO.out.1.frozen 1
    have f2 := HO.out.1.frozen 2
    have z0 : V.cell? ⟨N, 0, none⟩ = some (.int .i64 0) := HO.out.1.cell 0
    have z1 : V.cell? ⟨N, 1, none⟩ = some (.string ⟨#[]⟩) := HO.out.1.cell 1
    have z2 : V.cell? ⟨N, 2, none⟩ = some (.int .i64 0) := HO.out.1.cell 2
    rw [← HV.out, ← HN.out]
    go_wp2_with fail
    refine (HDi.out _).mono ?_
    rintro e w' ⟨rfl, hw'⟩
    subst hw'
    go_wp2_with fail
    refine (HY.out _).mono ?_
    rintro e w' ⟨rfl, hw'⟩
    subst hw'
    go_wp2_with fail
    exact bodyPost_ret (results_next rfl _ _ _ _ _ _ _ _ (next_fin HN.out HO.out _ _ _).1 rfl rfl rfl) rfl ⟨rfl, (next_fin HN.out HO.out _ _ _).2⟩

end Go.Proofs.Ytocbebkcpmodnaa
