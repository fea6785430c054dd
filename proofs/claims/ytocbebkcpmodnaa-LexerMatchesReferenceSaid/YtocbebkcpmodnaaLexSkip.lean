/- The walks of the reader's methods skip and word. -/
import Derived.Test.YtocbebkcpmodnaaLexWhile
import Derived.WalkMore
namespace Go.Proofs.Ytocbebkcpmodnaa
open Go.RowKit

namespace Lex
theorem drop_cons {T : ByteArray} {q : Nat} (h : q < T.size) : T.data.toList.drop q = T[q] :: T.data.toList.drop (q + 1) := List.drop_eq_getElem_cons (show q < T.data.toList.length from h)
theorem by_all {Q : UInt8 → Bool} (h : ((List.range 256).all fun n => Q (UInt8.ofNat n)) = true) (c : UInt8) : Q c = true := by
  have := List.all_eq_true.1 h c.toNat (List.mem_range.2 c.toNat_lt)
  simpa using this
def clsQ (c : UInt8) : Bool := (decide (clsN c = 8) == isBlank c) && (decide (clsN c = 1) == isLetter c) && (decide (clsN c = 2) == isDigit c) && (decide (clsN c = 16) == isSym c) && ((clsN c &&& 7 != 0) == isWord c) && ((clsN c &&& 2 != 0) == isDigit c) && decide (clsN c ≤ 16)
theorem clsN_eq (c : UInt8) : clsQ c = true := by_all (Q := clsQ) (by kernel_rfl) c
theorem clsN_blank (c : UInt8) : decide (clsN c = 8) = isBlank c := by
  have h := clsN_eq c
  unfold clsQ at h
  simp only [Bool.and_eq_true, beq_iff_eq] at h
  exact h.1.1.1.1.1.1
theorem drop_while (p : UInt8 → Bool) (l : List UInt8) : l.drop (l.takeWhile p).length = l.dropWhile p := by
  induction l with
  | nil => rfl
  | cons a l ih =>
    rw [List.takeWhile_cons, List.dropWhile_cons]
    split
    · exact ih
    · rfl
theorem skip_comment (r : List UInt8) : skip true r = skip false (r.dropWhile fun c => decide (c.toNat ≠ 10)) := by
  induction r with
  | nil => rfl
  | cons c r ih =>
    rw [skip_t, List.dropWhile_cons]
    by_cases h : c.toNat = 10
    · rw [if_pos h, if_neg (by simp [h]), skip_f, if_pos (by unfold isBlank; simp [h])]
    · rw [if_neg h, if_pos (by simp [h])]; exact ih
theorem skip_while {T : ByteArray} {q n : Nat} (hq : q < T.size) (h35 : T[q].toNat = 35) (hn : n = q + ((T.data.toList.drop q).takeWhile fun c => decide (c.toNat ≠ 10)).length) :
    skip false (T.data.toList.drop n) = skip false (T.data.toList.drop q) ∧ q < n ∧ n ≤ T.size := by
  have e : T.data.toList.drop n = (T.data.toList.drop q).dropWhile fun c => decide (c.toNat ≠ 10) := by
    rw [hn, ← List.drop_drop, drop_while]
  refine ⟨?_, ?_, ?_⟩
  · rw [e, drop_cons hq, skip_f, if_neg (by unfold isBlank; simp [h35]), if_pos h35, List.dropWhile_cons, if_pos (by simp [h35]), skip_comment]
  · rw [hn, drop_cons hq, List.takeWhile_cons, if_pos (by simp [h35])]
    simp
  · rw [hn]
    have := (List.takeWhile_sublist (fun c : UInt8 => decide (c.toNat ≠ 10)) (l := T.data.toList.drop q)).length_le
    rw [List.length_drop] at this
    have hlen : T.data.toList.length = T.size := rfl
    omega
end Lex

theorem call_skip1 : ∀ args w, (callFunc 43 args).run Try.prog w = .ok (.enter 43 args) w := fun _ _ => by kernel_rfl
theorem call_word1 : ∀ args w, (callFunc 49 args).run Try.prog w = .ok (.enter 49 args) w := fun _ _ => by kernel_rfl

set_option maxRecDepth 100000 in
set_option maxHeartbeats 2000000 in
theorem rskip_any (b : Nat) (T : ByteArray) (at_ : Nat) (hat : at_ ≤ T.size) (hT : T.size ≤ 140737488351232) (W : World) (h : Rd W b T at_) :
    Calls Try.prog 35 #[.pointer (some ⟨b, 0, none⟩)] W fun e w' =>
      ∃ n, n ≤ T.size ∧ at_ ≤ n ∧ T.data.toList.drop n = Lex.skip false (T.data.toList.drop at_) ∧ e = .returned (.tuple #[]) ∧ Rd w' b T n ∧ Mv b W w' := by
  go_enter Try.func35, Try.ntmps35
  have H0 := Lib.hid h
  clear h
  have HWh : Hid (∀ w q, q ≤ T.size → Rd w b T q → Calls Try.prog 42 #[.pointer (some ⟨b, 0, none⟩), .func (.func 43) #[] #[]] w fun e w' =>
      ∃ n, n = q + ((T.data.toList.drop q).takeWhile fun c => decide (c.toNat ≠ 10)).length ∧ e = .returned (.string (T.extract q n)) ∧ Rd w' b T n ∧ Mv b w w') := Lib.hid fun w q hq hR =>
    while_any _ #[] (fun c => decide (c.toNat ≠ 10)) b T q hq hT w hR call_skip1 fun w _ q _ c => (skip1_any c w).mono fun e w' h => ⟨h.1, h.2 ▸ Below.refl _ _⟩
  go_wp2_with fail
  go_step3
  go_wp2_with fail
  go_step3
  go_wp2_with fail
  go_loopw [] (fun wr => ∃ q, q ≤ T.size ∧ at_ ≤ q ∧ Hid (Rd wr b T q ∧ Mv b W wr ∧ Lex.skip false (T.data.toList.drop q) = Lex.skip false (T.data.toList.drop at_))) (fun wr => T.size - posOf wr b)
  case atStart => exact ⟨at_, hat, Nat.le_refl _, Lib.hid ⟨H0.out, Only.refl _ _, rfl⟩⟩
  case round =>
    obtain ⟨q, hq2, hq1, HR⟩ := hrel
    have k0 := HR.out.1.text
    have k1 := HR.out.1.pos
    have hlt' := HR.out.1.lt
    have g0 : ∀ X : Grown wr, X.w.cell? ⟨b, 0, none⟩ = some (.string T) := fun X => by rw [X.cell hlt']; exact k0
    have g1 : ∀ X : Grown wr, X.w.cell? ⟨b, 1, none⟩ = some (.int .i64 q) := fun X => by rw [X.cell hlt']; exact k1
    by_cases hqT : q < T.size
    · have hd : decide ((q : Int) < (T.size : Int)) = true := decide_eq_true (by omega)
      have hb0 : (0 : Int) ≤ q := by omega
      have hb1 : (q : Int) < (T.size : Int) := by omega
      go_wp2_with fail
      refine wp_region_grown (by kernel_rfl) (by kernel_rfl) ?_
      repeat (go_big_quiet_step (fail))
      refine wpQuiet_nil ?_
      rintro _ ⟨X, rfl⟩
      obtain ⟨X', HX'⟩ : ∃ x, Hid (x = X.w) := ⟨_, Lib.hid rfl⟩
      have HRX : Hid (Rd X' b T q ∧ Mv b W X') := Lib.hid (by rw [HX'.out]; exact ⟨HR.out.1.below X.below, HR.out.2.1.trans (Only.of_below _ X.below)⟩)
      rw [← HX'.out]
      have k0' := HRX.out.1.text
      have k1' := HRX.out.1.pos
      have hltX := HRX.out.1.lt
      have g0' : ∀ Y : Grown X', Y.w.cell? ⟨b, 0, none⟩ = some (.string T) := fun Y => by rw [Y.cell hltX]; exact k0'
      have g1' : ∀ Y : Grown X', Y.w.cell? ⟨b, 1, none⟩ = some (.int .i64 q) := fun Y => by rw [Y.cell hltX]; exact k1'
      go_wp2_with fail
      refine wp_region_grown (by kernel_rfl) (by kernel_rfl) ?_
      repeat (go_big_quiet_step (fail))
      refine wpQuiet_nil ?_
      rintro _ ⟨Y, rfl⟩
      obtain ⟨Y', HY'⟩ : ∃ x, Hid (x = Y.w) := ⟨_, Lib.hid rfl⟩
      have HRY : Hid (Rd Y' b T q ∧ Mv b W Y') := Lib.hid (by rw [HY'.out]; exact ⟨HRX.out.1.below Y.below, HRX.out.2.trans (Only.of_below _ Y.below)⟩)
      rw [← HY'.out]
      obtain ⟨c, Hc⟩ : ∃ c, Hid (c = T[q]) := ⟨_, Lib.hid rfl⟩
      rw [← Hc.out]
      have kc := HRY.out.1.cls c
      have hc1 : (c.toNat : Int) < 256 := by have := c.toNat_lt; omega
      have hc0 : (0 : Int) ≤ c.toNat := by omega
      have e8 : ((Lex.clsN c : Int) == 8) = Lex.isBlank c := by
        rw [← Lex.clsN_blank]
        have : ((Lex.clsN c : Int) == 8) = decide ((Lex.clsN c : Int) = 8) := rfl
        rw [this, decide_eq_decide]; omega
      have e35 : ((c.toNat : Int) == 35) = decide (c.toNat = 35) := by
        have : ((c.toNat : Int) == 35) = decide ((c.toNat : Int) = 35) := rfl
        rw [this, decide_eq_decide]; omega
      obtain ⟨bl, hbl⟩ : ∃ v, Lex.isBlank c = v := ⟨_, rfl⟩
      rw [hbl] at e8
      cases bl with
      | true =>
        have k1'' := HRY.out.1.pos
        have f1'' := HRY.out.1.frozen 1
        have hq9 : (q : Int) + 1 ≤ 140737488351233 := by omega
        have HRn : Hid (Rd (Y'.setCell ⟨b, 1, none⟩ (.int .i64 ((q : Int) + 1))) b T (q + 1) ∧ Mv b W (Y'.setCell ⟨b, 1, none⟩ (.int .i64 ((q : Int) + 1))) ∧ Lex.skip false (T.data.toList.drop (q + 1)) = Lex.skip false (T.data.toList.drop at_)) := Lib.hid ⟨by
          have := HRY.out.1.set (q + 1)
          push_cast at this
          exact this, HRY.out.2.setCell (Or.inl rfl) _, by
          rw [← HR.out.2.2, Lex.drop_cons hqT, Lex.skip_f, if_pos (by rw [← Hc.out]; exact hbl)]⟩
        go_wp2_with fail
        go_round
        case rel => exact ⟨q + 1, by omega, by omega, HRn⟩
        case measure => rw [HRn.out.1.posOf, HR.out.1.posOf]; omega
      | false =>
        by_cases h35 : c.toNat = 35
        · rw [decide_eq_true h35] at e35
          have H35 := Lib.hid h35
          clear h35
          go_wp2_with fail
          refine (HWh.out Y' q hq2 HRY.out.1).mono ?_
          rintro e w2 ⟨n, hn, rfl, hR2, hM2⟩
          obtain ⟨s1, s2, s3⟩ := Lex.skip_while hqT (by rw [← Hc.out]; exact H35.out) hn
          have HRn : Hid (Rd w2 b T n ∧ Mv b W w2 ∧ Lex.skip false (T.data.toList.drop n) = Lex.skip false (T.data.toList.drop at_)) := Lib.hid ⟨hR2, HRY.out.2.trans hM2, s1.trans HR.out.2.2⟩
          clear s1 hR2 hM2 hn
          go_wp2_with fail
          go_round
          case rel => exact ⟨n, by omega, by omega, HRn⟩
          case measure => rw [HRn.out.1.posOf, HR.out.1.posOf]; omega
        · rw [decide_eq_false h35] at e35
          have HE : Hid (T.data.toList.drop q = Lex.skip false (T.data.toList.drop at_)) := Lib.hid (by
            rw [← HR.out.2.2, Lex.drop_cons hqT, ← Hc.out, Lex.skip_at hbl h35])
          go_wp2_with fail
          simp only [Exit.noGoto]
          go_end0
          exact ⟨q, hq2, hq1, HE.out, rfl, HRY.out.1, HRY.out.2⟩
    · have hd : decide ((q : Int) < (T.size : Int)) = false := decide_eq_false (by omega)
      have HE : Hid (T.data.toList.drop q = Lex.skip false (T.data.toList.drop at_)) := Lib.hid (by
        rw [← HR.out.2.2, List.drop_eq_nil_of_le (show T.data.toList.length ≤ q by show T.size ≤ q; omega)]; rfl)
      go_wp2_with fail
      refine wp_region_grown (by kernel_rfl) (by kernel_rfl) ?_
      repeat (go_big_quiet_step (fail))
      refine wpQuiet_nil ?_
      rintro _ ⟨X, rfl⟩
      have HY : Hid (Rd X.w b T q ∧ Mv b W X.w) := Lib.hid ⟨HR.out.1.below X.below, HR.out.2.1.trans (Only.of_below _ X.below)⟩
      go_wp2_with fail
      simp only [Exit.noGoto]
      go_end0
      exact ⟨q, hq2, hq1, HE.out, rfl, HY.out.1, HY.out.2⟩

end Go.Proofs.Ytocbebkcpmodnaa
