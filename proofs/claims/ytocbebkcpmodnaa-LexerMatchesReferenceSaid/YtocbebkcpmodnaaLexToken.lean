/- The walk of the reader's method token. -/
import Derived.Test.YtocbebkcpmodnaaLexQuoted
import Derived.Test.YtocbebkcpmodnaaLexWord
import Derived.Test.YtocbebkcpmodnaaQuietTail
import Derived.Lib.Strings
import Derived.Lib.SlicesS
import Derived.RegionTactic
import Derived.BigRegion
namespace Go.Proofs.Ytocbebkcpmodnaa
open Go.RowKit

theorem Lex.cls_is (c : UInt8) : (((Lex.clsN c : Int) == 1) = Lex.isLetter c) ∧ (((Lex.clsN c : Int) == 2) = Lex.isDigit c) ∧ (((Lex.clsN c : Int) == 16) = Lex.isSym c) := by
  have h := Lex.clsN_eq c
  unfold Lex.clsQ at h
  simp only [Bool.and_eq_true, beq_iff_eq] at h
  have key : ∀ k : Nat, ((Lex.clsN c : Int) == (k : Int)) = decide (Lex.clsN c = k) := fun k => by
    have : ((Lex.clsN c : Int) == (k : Int)) = decide ((Lex.clsN c : Int) = (k : Int)) := rfl
    rw [this, decide_eq_decide]; omega
  exact ⟨(key 1).trans h.1.1.1.1.1.2, (key 2).trans h.1.1.1.1.2, (key 16).trans h.1.1.1.2⟩
theorem results_token {fn : Func} (h : fn.results = #[.cell 2 31, .tmp 3]) (tmps : Array Value) (w : World) (A : Nat) (u v0 v1 v2 : Value) (h2 : tmps.getD 2 undef = .pointer (some ⟨A, 0, none⟩)) (h3 : tmps.getD 3 undef = u) (hw : Whole w A 31 #[v0, v1, v2]) :
    (results fn tmps).run Try.prog w = .ok (.tuple #[.agg #[v0, v1, v2], u]) w := by
  have c0 : w.cell? ⟨A, 0, none⟩ = some v0 := hw.cell 0
  have c1 : w.cell? ⟨A, 1, none⟩ = some v1 := hw.cell 1
  have c2 : w.cell? ⟨A, 2, none⟩ = some v2 := hw.cell 2
  simp only [results, h, List.mapM_toArray, List.mapM_cons, List.mapM_nil, h2, h3]
  go_simp
/-- The result, laid into its variable. -/
theorem fin_facts {W X : World} {A b n : Nat} {T : ByteArray} {cs : Array Value} (x s q : Value) (hz : cs.size = 3) (hA : Whole X A 31 cs) (hR : Rd X b T n) (hM : Mv b W X) (hbA : b ≠ A) (hWA : W.heap.size ≤ A) :
    Whole (((X.setCell ⟨A, 0, none⟩ x).setCell ⟨A, 1, none⟩ s).setCell ⟨A, 2, none⟩ q) A 31 #[x, s, q] ∧ Rd (((X.setCell ⟨A, 0, none⟩ x).setCell ⟨A, 1, none⟩ s).setCell ⟨A, 2, none⟩ q) b T n ∧ Mv b W (((X.setCell ⟨A, 0, none⟩ x).setCell ⟨A, 1, none⟩ s).setCell ⟨A, 2, none⟩ q) := by
  refine ⟨?_, ?_, ?_⟩
  · have := ((hA.set 0 x).set 1 s).set 2 q
    obtain ⟨l⟩ := cs
    match l, hz with
    | [a, b, c], _ => exact this
  · exact ((Whole.far hR (p := ⟨A, 0, none⟩) hbA x).far (p := ⟨A, 1, none⟩) hbA s).far (p := ⟨A, 2, none⟩) hbA q
  · exact ((hM.setCell (p := ⟨A, 0, none⟩) (Or.inr hWA) x).setCell (p := ⟨A, 1, none⟩) (Or.inr hWA) s).setCell (p := ⟨A, 2, none⟩) (Or.inr hWA) q
theorem text_facts {W X : World} {A B b n : Nat} {T : ByteArray} {cs : Array Value} (x s : Value) (hA : Whole X A 31 cs) (hR : Rd X b T n) (hM : Mv b W X) (hbB : b ≠ B) (hAB : A ≠ B) (hWB : W.heap.size ≤ B) :
    Whole ((X.setCell ⟨B, 0, none⟩ x).setCell ⟨B, 1, none⟩ s) A 31 cs ∧ Rd ((X.setCell ⟨B, 0, none⟩ x).setCell ⟨B, 1, none⟩ s) b T n ∧ Mv b W ((X.setCell ⟨B, 0, none⟩ x).setCell ⟨B, 1, none⟩ s) :=
  ⟨(hA.far (p := ⟨B, 0, none⟩) hAB x).far (p := ⟨B, 1, none⟩) hAB s, (Whole.far hR (p := ⟨B, 0, none⟩) hbB x).far (p := ⟨B, 1, none⟩) hbB s, (hM.setCell (p := ⟨B, 0, none⟩) (Or.inr hWB) x).setCell (p := ⟨B, 1, none⟩) (Or.inr hWB) s⟩
namespace Lex
theorem extract_list (T : ByteArray) (p n : Nat) : T.extract p n = ⟨((T.data.toList.drop p).take (n - p)).toArray⟩ := by
  rw [← Lib.extract_data]
theorem take_while (P : UInt8 → Bool) (l : List UInt8) : l.take (l.takeWhile P).length = l.takeWhile P := by
  induction l with
  | nil => rfl
  | cons a l ih =>
    rw [List.takeWhile_cons]
    split
    · rw [List.length_cons, List.take_succ_cons, ih]
    · rfl
theorem word_parts {P : UInt8 → Bool} {T : ByteArray} {p n : Nat} (hp : p < T.size) (hc : P T[p] = true) (hn : n = p + ((T.data.toList.drop p).takeWhile P).length) :
    p < n ∧ n ≤ T.size ∧ T.data.toList.drop n = (T.data.toList.drop (p + 1)).dropWhile P ∧ T.extract p n = ⟨(T[p] :: (T.data.toList.drop (p + 1)).takeWhile P).toArray⟩ := by
  have hlen : T.data.toList.length = T.size := rfl
  have e : (T.data.toList.drop p).takeWhile P = T[p] :: (T.data.toList.drop (p + 1)).takeWhile P := by rw [drop_cons hp, List.takeWhile_cons, if_pos hc]
  have hle := (List.takeWhile_sublist P (l := T.data.toList.drop p)).length_le
  rw [List.length_drop] at hle
  refine ⟨by rw [hn, e]; simp, by omega, ?_, ?_⟩
  · rw [hn, ← List.drop_drop, drop_while, drop_cons hp, List.dropWhile_cons, if_pos hc]
  · rw [extract_list, ← e]
    congr 2
    have : n - p = ((T.data.toList.drop p).takeWhile P).length := by omega
    rw [this, take_while]
theorem extract_one {T : ByteArray} {p : Nat} (h : p < T.size) : T.extract p (p + 1) = ⟨[T[p]].toArray⟩ := by
  rw [extract_list, drop_cons h]
  have : p + 1 - p = 1 := by omega
  rw [this]; rfl
theorem size_list (l : List UInt8) : (⟨l.toArray⟩ : ByteArray).size = l.length := by
  show l.toArray.size = _
  simp
theorem tok_letter {c : UInt8} {r : List UInt8} (h : isLetter c = true) : tok c r = if 24 < (c :: r.takeWhile isWord).length then .err 7 else .ok 1 (c :: r.takeWhile isWord) (r.dropWhile isWord) := by
  unfold tok; rw [if_pos h]
theorem tok_digit {c : UInt8} {r : List UInt8} (h1 : isLetter c = false) (h : isDigit c = true) : tok c r = if 7 < (c :: r.takeWhile isDigit).length ∨ wordAt (r.dropWhile isDigit) = true then .err 11 else .ok 2 (c :: r.takeWhile isDigit) (r.dropWhile isDigit) := by
  unfold tok; rw [if_neg (by rw [h1]; decide), if_pos h]
theorem tok_quote {c : UInt8} {r : List UInt8} (h1 : isLetter c = false) (h2 : isDigit c = false) (h : c.toNat = 34) : tok c r = match strD r with | some x => .ok 3 x.1 x.2 | none => .err 10 := by
  unfold tok; rw [if_neg (by rw [h1]; decide), if_neg (by rw [h2]; decide), if_pos h]
  cases strD r <;> rfl
theorem tok_rest {c : UInt8} {r : List UInt8} (h1 : isLetter c = false) (h2 : isDigit c = false) (h : ¬ c.toNat = 34) : tok c r = if isSym c then .ok 4 [c] r else .err 10 := by
  unfold tok; rw [if_neg (by rw [h1]; decide), if_neg (by rw [h2]; decide), if_neg h]
/-- A word that is taken further on: nothing is taken just if no word stands there. -/
theorem word_none {T : ByteArray} {n m : Nat} (hn : n ≤ T.size) (hm : m = n + ((T.data.toList.drop n).takeWhile isWord).length) : (T.extract n m = ⟨#[]⟩ ↔ wordAt (T.data.toList.drop n) = false) := by
  rw [extract_list]
  have : m - n = ((T.data.toList.drop n).takeWhile isWord).length := by omega
  rw [this, take_while]
  cases hd : T.data.toList.drop n with
  | nil => simp [wordAt]
  | cons a l =>
    show _ ↔ isWord a = false
    rw [List.takeWhile_cons]
    cases ha : isWord a with
    | true => simp
    | false => simp
end Lex
/-- What token returns, and what it leaves. -/
def TokenPost (W : World) (b : Nat) (T : ByteArray) (p : Nat) (hp : p < T.size) (e : Ending) (w' : World) : Prop :=
  (∃ k t n, Lex.tok T[p] (T.data.toList.drop (p + 1)) = .ok k t (T.data.toList.drop n) ∧ p < n ∧ n ≤ T.size ∧ e = .returned (.tuple #[.agg #[.int .i64 (k : Nat), .string ⟨t.toArray⟩, .int .i64 p], .int .i64 0]) ∧ Rd w' b T n ∧ Mv b W w') ∨
  ∃ x v0 v1 n, Lex.tok T[p] (T.data.toList.drop (p + 1)) = .err x ∧ x ≠ 0 ∧ e = .returned (.tuple #[.agg #[.int .i64 v0, .string v1, .int .i64 p], .int .i64 (x : Nat)]) ∧ Rd w' b T n ∧ Mv b W w'

set_option maxRecDepth 100000 in
set_option maxHeartbeats 4000000 in
theorem token_any (b : Nat) (T : ByteArray) (p : Nat) (hp : p < T.size) (hT : T.size ≤ 1407374883512) (W : World) (h : Rd W b T p) :
    Calls Try.prog 36 #[.pointer (some ⟨b, 0, none⟩)] W (TokenPost W b T p hp) := by
  have H0 := Lib.hid h
  have hlt := h.lt
  have k1 := h.pos
  clear h
  go_enter Try.func36, Try.ntmps36
  go_wp2_with fail
  obtain ⟨A, HAq⟩ : ∃ x, Hid (x = W.heap.size) := ⟨_, Lib.hid rfl⟩
  obtain ⟨B, HBq⟩ : ∃ x, Hid (x = W.heap.size + 1) := ⟨_, Lib.hid rfl⟩
  obtain ⟨W1, HW1⟩ : ∃ x, Hid (x = (W.alloc (.cells #[.int .i64 0, .string ⟨#[]⟩, .int .i64 0] 31)).alloc (.cells #[.int .i64 0, .string ⟨#[]⟩, .int .i64 p] 31)) := ⟨_, Lib.hid rfl⟩
  have HB1 : Hid (Below W.heap.size W W1) := Lib.hid (by rw [HW1.out]; exact ((Below.refl _ _).alloc (Nat.le_refl _) _).alloc (by rw [size_alloc]; omega) _)
  have HT1 : Hid (Whole W1 A 31 #[.int .i64 0, .string ⟨#[]⟩, .int .i64 0] ∧ Whole W1 B 31 #[.int .i64 0, .string ⟨#[]⟩, .int .i64 p]) := Lib.hid (by
    rw [HW1.out, HAq.out, HBq.out]
    refine ⟨(Whole.new W _ _).alloc _, ?_⟩
    have := Whole.new (W.alloc (.cells #[.int .i64 0, .string ⟨#[]⟩, .int .i64 0] 31)) 31 #[.int .i64 0, .string ⟨#[]⟩, .int .i64 p]
    rwa [size_alloc] at this)
  have HR1 : Hid (Rd W1 b T p) := Lib.hid (H0.out.below HB1.out)
  have hAb : b < A := by rw [HAq.out]; exact hlt
  have hABlt : A < B := by rw [HAq.out, HBq.out]; omega
  rw [← HW1.out, ← HBq.out, ← HAq.out]
  clear HW1 k1
  have k0' := HR1.out.text
  have k1' := HR1.out.pos
  have hltX := HR1.out.lt
  have g0' : ∀ Y : Grown W1, Y.w.cell? ⟨b, 0, none⟩ = some (.string T) := fun Y => by rw [Y.cell hltX]; exact k0'
  have g1' : ∀ Y : Grown W1, Y.w.cell? ⟨b, 1, none⟩ = some (.int .i64 p) := fun Y => by rw [Y.cell hltX]; exact k1'
  have hb0 : (0 : Int) ≤ p := by omega
  have hb1 : (p : Int) < (T.size : Int) := by omega
  refine wp_region_grown (by kernel_rfl) (by kernel_rfl) ?_
  repeat (go_big_quiet_step (fail))
  refine wpQuiet_nil ?_
  rintro _ ⟨Y, rfl⟩
  obtain ⟨w2, HY'⟩ : ∃ x, Hid (x = Y.w) := ⟨_, Lib.hid rfl⟩
  have HR2 : Hid (Rd w2 b T p) := Lib.hid (by rw [HY'.out]; exact HR1.out.below Y.below)
  have HM2 : Hid (Mv b W w2) := Lib.hid (by rw [HY'.out]; exact (Only.of_below _ HB1.out).trans (Only.of_below _ Y.below))
  have HT2 : Hid (Whole w2 A 31 #[.int .i64 0, .string ⟨#[]⟩, .int .i64 0] ∧ Whole w2 B 31 #[.int .i64 0, .string ⟨#[]⟩, .int .i64 p]) := Lib.hid (by
    rw [HY'.out]; exact ⟨(Y.below.block _ HT1.out.1.lt).trans HT1.out.1, (Y.below.block _ HT1.out.2.lt).trans HT1.out.2⟩)
  rw [← HY'.out]
  clear k0' k1' g0' g1' hltX
  obtain ⟨c, Hc⟩ : ∃ c, Hid (c = T[p]) := ⟨_, Lib.hid rfl⟩
  rw [← Hc.out]
  have hTc : T[p] = c := Hc.out.symm
  have kc := HR2.out.cls c
  have hc1 : (c.toNat : Int) < 256 := by have := c.toNat_lt; omega
  have hc0 : (0 : Int) ≤ c.toNat := by omega
  have c1 := Lex.cls_is c
  have nbA : ¬ b = A := by omega
  have nbB : ¬ b = B := by omega
  have nAB : ¬ A = B := by omega
  have e34 := Lex.byte_eq c 34
  obtain ⟨bl, hbl⟩ : ∃ v, Lex.isLetter c = v := ⟨_, rfl⟩
  have e1 := c1.1
  rw [hbl] at e1
  cases bl with
  | true =>
    clear c1 e34
    go_wp2_with fail
    refine (word_any 7 (by decide) b T p (by omega) (by omega) w2 HR2.out).mono ?_
    rintro e w3 ⟨n, hn, rfl, hR3, hM3⟩
    obtain ⟨S, HS⟩ : ∃ x, Hid (x = T.extract p n) := ⟨_, Lib.hid rfl⟩
    have HR3 := Lib.hid hR3
    have HM3 := Lib.hid (HM2.out.trans hM3)
    obtain ⟨ta, tb⟩ := And.intro (hM3.whole HT2.out.1 (by omega)) (hM3.whole HT2.out.2 (by omega))
    have Hn := Lib.hid hn
    rw [← HS.out]
    have a0 := ta.cell 0
    have a1 := ta.cell 1
    have a2 := ta.cell 2
    have b0 := tb.cell 0
    have b1 := tb.cell 1
    have b2 := tb.cell 2
    have fa0 := ta.frozen 0
    have fa1 := ta.frozen 1
    have fa2 := ta.frozen 2
    have fb0 := tb.frozen 0
    have fb1 := tb.frozen 1
    simp only [List.getElem?_toArray, List.getElem?_cons_zero, List.getElem?_cons_succ] at a0 a1 a2 b0 b1 b2
    have HTa := Lib.hid ta
    clear ta tb hR3 hM3 hn
    have HX := Lib.hid (text_facts (B := B) (.int .i64 1) (.string S) HTa.out HR3.out HM3.out nbB nAB (by rw [HBq.out]; omega))
    have HF := Lib.hid (fin_facts (.int .i64 1) (.string S) (.int .i64 p) rfl HX.out.1 HX.out.2.1 HX.out.2.2 nbA (by rw [HAq.out]; exact Nat.le_refl _))
    have hw7 : Lex.want 7 = Lex.isWord := funext Lex.want_word
    have hn' := Hn.out
    rw [hw7] at hn'
    obtain ⟨q1, q2, q3, q4⟩ := Lex.word_parts (P := Lex.isWord) hp (by rw [hTc]; unfold Lex.isWord; rw [hbl]; rfl) hn'
    rw [hTc] at q4
    have hSz : S.size = (c :: (T.data.toList.drop (p + 1)).takeWhile Lex.isWord).length := by rw [HS.out, q4, Lex.size_list]
    have HQ := Lib.hid (And.intro q3 (And.intro q4 (And.intro hSz (Lex.tok_letter (r := T.data.toList.drop (p + 1)) hbl))))
    clear q3 q4 hSz hn' hw7
    by_cases h24 : 24 < S.size
    · have hs : decide (24 < (S.size : Int)) = true := decide_eq_true (by omega)
      have hs' : decide (24 < S.size) = true := decide_eq_true h24
      go_wp2_with fail
      refine bodyPost_ret (results_token rfl _ _ A (.int .i64 7) _ _ _ rfl rfl HF.out.1) rfl ?_
      exact Or.inr ⟨7, _, _, n, by rw [hTc, HQ.out.2.2.2, if_pos (by rw [← HQ.out.2.2.1]; exact h24)], by decide, rfl, HF.out.2.1, HF.out.2.2⟩
    · have hs : decide (24 < (S.size : Int)) = false := decide_eq_false (by omega)
      have hs' : decide (24 < S.size) = false := decide_eq_false h24
      go_wp2_with fail
      refine bodyPost_ret (results_token rfl _ _ A (.int .i64 0) _ _ _ rfl rfl HF.out.1) rfl ?_
      exact Or.inl ⟨1, _, n, by rw [hTc, HQ.out.2.2.2, if_neg (by rw [← HQ.out.2.2.1]; exact h24), HQ.out.1], q1, q2, by rw [HS.out, HQ.out.2.1]; rfl, HF.out.2.1, HF.out.2.2⟩
  | false =>
    have HL := Lib.hid hbl
    clear hbl
    have e2 := c1.2.1
    have e16 := c1.2.2
    clear c1
    obtain ⟨bd, hbd⟩ : ∃ v, Lex.isDigit c = v := ⟨_, rfl⟩
    rw [hbd] at e2
    cases bd with
    | true =>
      clear e16 e34
      go_wp2_with fail
      refine (word_any 2 (by decide) b T p (by omega) (by omega) w2 HR2.out).mono ?_
      rintro e w3 ⟨n, hn, rfl, hR3, hM3⟩
      obtain ⟨S, HS⟩ : ∃ x, Hid (x = T.extract p n) := ⟨_, Lib.hid rfl⟩
      have HR3 := Lib.hid hR3
      have HM3 := Lib.hid (HM2.out.trans hM3)
      obtain ⟨ta, tb⟩ := And.intro (hM3.whole HT2.out.1 (by omega)) (hM3.whole HT2.out.2 (by omega))
      rw [← HS.out]
      have hw2 : Lex.want 2 = Lex.isDigit := funext Lex.want_digit
      rw [hw2] at hn
      obtain ⟨q1, q2, q3, q4⟩ := Lex.word_parts (P := Lex.isDigit) hp (by rw [hTc]; exact hbd) hn
      rw [hTc] at q4
      have hSz : S.size = (c :: (T.data.toList.drop (p + 1)).takeWhile Lex.isDigit).length := by rw [HS.out, q4, Lex.size_list]
      have HQ := Lib.hid (And.intro q3 (And.intro q4 (And.intro hSz (Lex.tok_digit (r := T.data.toList.drop (p + 1)) HL.out hbd))))
      have HBd := Lib.hid hbd
      clear q3 q4 hSz hn hw2 hbd
      have b0 := tb.cell 0
      have b1 := tb.cell 1
      have b2 := tb.cell 2
      have fb0 := tb.frozen 0
      have fb1 := tb.frozen 1
      simp only [List.getElem?_toArray, List.getElem?_cons_zero, List.getElem?_cons_succ] at b0 b1 b2
      have HTa := Lib.hid ta
      have HTb := Lib.hid tb
      clear ta tb hR3 hM3
      have HX := Lib.hid (text_facts (B := B) (.int .i64 2) (.string S) HTa.out HR3.out HM3.out nbB nAB (by rw [HBq.out]; omega))
      by_cases h7 : 7 < S.size
      · have hs : decide (7 < (S.size : Int)) = true := decide_eq_true (by omega)
        have hs' : decide (7 < S.size) = true := decide_eq_true h7
        have a0 := HTa.out.cell 0
        have a1 := HTa.out.cell 1
        have a2 := HTa.out.cell 2
        have fa0 := HTa.out.frozen 0
        have fa1 := HTa.out.frozen 1
        have fa2 := HTa.out.frozen 2
        simp only [List.getElem?_toArray, List.getElem?_cons_zero, List.getElem?_cons_succ] at a0 a1 a2
        have HF := Lib.hid (fin_facts (.int .i64 2) (.string S) (.int .i64 p) rfl HX.out.1 HX.out.2.1 HX.out.2.2 nbA (by rw [HAq.out]; exact Nat.le_refl _))
        go_wp2_with fail
        refine bodyPost_ret (results_token rfl _ _ A (.int .i64 11) _ _ _ rfl rfl HF.out.1) rfl ?_
        exact Or.inr ⟨11, _, _, n, by rw [hTc, HQ.out.2.2.2, if_pos (Or.inl (by rw [← HQ.out.2.2.1]; exact h7))], by decide, rfl, HF.out.2.1, HF.out.2.2⟩
      · have hs : decide (7 < (S.size : Int)) = false := decide_eq_false (by omega)
        have hs' : decide (7 < S.size) = false := decide_eq_false h7
        go_wp2_with fail
        obtain ⟨X, HXq⟩ : ∃ x, Hid (x = (w3.setCell ⟨B, 0, none⟩ (.int .i64 2)).setCell ⟨B, 1, none⟩ (.string S)) := ⟨_, Lib.hid rfl⟩
        have HXB : Hid (Whole X B 31 #[.int .i64 2, .string S, .int .i64 p]) := Lib.hid (by rw [HXq.out]; exact (HTb.out.set 0 _).set 1 _)
        rw [← HXq.out] at HX ⊢
        refine (word_any 7 (by decide) b T n q2 (by omega) X HX.out.2.1).mono ?_
        rintro e w4 ⟨m, hm, rfl, hR4, hM4⟩
        obtain ⟨S2, HS2⟩ : ∃ x, Hid (x = T.extract n m) := ⟨_, Lib.hid rfl⟩
        rw [show Lex.want 7 = Lex.isWord from funext Lex.want_word] at hm
        have HW := Lib.hid (Lex.word_none q2 hm)
        have HMT : Hid (n ≤ m ∧ m ≤ T.size) := Lib.hid (by
          have h1 := (List.takeWhile_sublist Lex.isWord (l := T.data.toList.drop n)).length_le
          rw [List.length_drop] at h1
          have h2 : T.data.toList.length = T.size := rfl
          omega)
        rw [← HS2.out] at HW ⊢
        have HM4 := Lib.hid (HX.out.2.2.trans hM4)
        have HR4 := Lib.hid hR4
        obtain ⟨ta, tb⟩ := And.intro (hM4.whole HX.out.1 (by omega)) (hM4.whole HXB.out (by omega))
        have HTa4 := Lib.hid ta
        have a0 := ta.cell 0
        have a1 := ta.cell 1
        have a2 := ta.cell 2
        have c0 := tb.cell 0
        have c1 := tb.cell 1
        have c2 := tb.cell 2
        have fa0 := ta.frozen 0
        have fa1 := ta.frozen 1
        have fa2 := ta.frozen 2
        simp only [List.getElem?_toArray, List.getElem?_cons_zero, List.getElem?_cons_succ] at a0 a1 a2 c0 c1 c2
        have HF := Lib.hid (fin_facts (.int .i64 2) (.string S) (.int .i64 p) rfl HTa4.out HR4.out HM4.out nbA (by rw [HAq.out]; exact Nat.le_refl _))
        clear ta tb hR4 hM4 hm b0 b1 b2 fb0 fb1
        by_cases h0 : S2 = ⟨#[]⟩
        · have hw := HW.out.1 h0
          have Hw := Lib.hid hw
          clear hw
          subst h0
          go_wp2_with fail
          refine bodyPost_ret (results_token rfl _ _ A (.int .i64 0) _ _ _ rfl rfl HF.out.1) rfl ?_
          have hmn : m = n := by
            rcases Nat.lt_or_ge n m with h | h
            · exfalso
              have h1 : (T.extract n m).size = 0 := by rw [← HS2.out]; rfl
              rw [Lex.extract_list, Lex.size_list, List.length_take, List.length_drop] at h1
              have h3 : T.data.toList.length = T.size := rfl
              have := HMT.out
              omega
            · exact Nat.le_antisymm h (by have := HMT.out; omega)
          exact Or.inl ⟨2, _, n, by rw [hTc, HQ.out.2.2.2, if_neg (by rw [not_or, ← HQ.out.1, Hw.out]; exact ⟨by rw [← HQ.out.2.2.1]; exact h7, by decide⟩), HQ.out.1], q1, q2, by rw [HS.out, HQ.out.2.1]; rfl, hmn ▸ HF.out.2.1, HF.out.2.2⟩
        · have h0n : (S2.toList == (⟨#[]⟩ : ByteArray).toList) = false := (Lib.bytes_beq_false_iff _ _).2 h0
          have hie : S2.toList.isEmpty = false := by
            cases hx : S2.toList with
            | nil =>
              have e : S2.data.toList = [] := by rw [← Lib.toList_data, hx]
              exact absurd (show S2 = ⟨#[]⟩ by cases S2; simpa using e) h0
            | cons a l => rfl
          have Hw : Hid (Lex.wordAt (T.data.toList.drop n) = true) := Lib.hid (by
            cases hx : Lex.wordAt (T.data.toList.drop n) with
            | true => rfl
            | false => exact absurd (HW.out.2 hx) h0)
          go_wp2_with fail
          refine bodyPost_ret (results_token rfl _ _ A (.int .i64 11) _ _ _ rfl rfl HF.out.1) rfl ?_
          exact Or.inr ⟨11, _, _, m, by rw [hTc, HQ.out.2.2.2, if_pos (Or.inr (by rw [← HQ.out.1]; exact Hw.out))], by decide, rfl, HF.out.2.1, HF.out.2.2⟩
    | false =>
      have HDg := Lib.hid hbd
      clear hbd
      by_cases h34 : c.toNat = 34
      · rw [decide_eq_true h34] at e34
        have H34 := Lib.hid h34
        clear h34 e16
        go_wp2_with fail
        refine (quoted_any b T p hp hT w2 HR2.out).mono ?_
        rintro e w3 hq
        rcases hq with ⟨hs, rfl, hR3, hM3⟩ | ⟨t, n, hs, hn1, hn2, rfl, hR3, hM3⟩
        · have HR3 := Lib.hid hR3
          have HM3 := Lib.hid (HM2.out.trans hM3)
          obtain ⟨ta, tb⟩ := And.intro (hM3.whole HT2.out.1 (by omega)) (hM3.whole HT2.out.2 (by omega))
          have Hs := Lib.hid hs
          clear hR3 hM3 hs
          have a0 := ta.cell 0
          have a1 := ta.cell 1
          have a2 := ta.cell 2
          have b0 := tb.cell 0
          have b1 := tb.cell 1
          have b2 := tb.cell 2
          have fa0 := ta.frozen 0
          have fa1 := ta.frozen 1
          have fa2 := ta.frozen 2
          have fb0 := tb.frozen 0
          have fb1 := tb.frozen 1
          simp only [List.getElem?_toArray, List.getElem?_cons_zero, List.getElem?_cons_succ] at a0 a1 a2 b0 b1 b2
          have HTa := Lib.hid ta
          clear ta tb
          have HF := Lib.hid (fin_facts (.int .i64 0) (.string ⟨#[]⟩) (.int .i64 p) rfl HTa.out HR3.out HM3.out nbA (by rw [HAq.out]; exact Nat.le_refl _))
          go_wp2_with fail
          refine bodyPost_ret (results_token rfl _ _ A (.int .i64 10) _ _ _ rfl rfl HF.out.1) rfl ?_
          exact Or.inr ⟨10, _, _, p, by rw [hTc, Lex.tok_quote HL.out HDg.out H34.out, Hs.out], by decide, rfl, HF.out.2.1, HF.out.2.2⟩
        · have HR3 := Lib.hid hR3
          have HM3 := Lib.hid (HM2.out.trans hM3)
          obtain ⟨ta, tb⟩ := And.intro (hM3.whole HT2.out.1 (by omega)) (hM3.whole HT2.out.2 (by omega))
          have Hs := Lib.hid hs
          clear hR3 hM3 hs
          have a0 := ta.cell 0
          have a1 := ta.cell 1
          have a2 := ta.cell 2
          have b0 := tb.cell 0
          have b1 := tb.cell 1
          have b2 := tb.cell 2
          have fa0 := ta.frozen 0
          have fa1 := ta.frozen 1
          have fa2 := ta.frozen 2
          have fb0 := tb.frozen 0
          have fb1 := tb.frozen 1
          simp only [List.getElem?_toArray, List.getElem?_cons_zero, List.getElem?_cons_succ] at a0 a1 a2 b0 b1 b2
          have HTa := Lib.hid ta
          clear ta tb
          have HX := Lib.hid (text_facts (B := B) (.int .i64 3) (.string ⟨t.toArray⟩) HTa.out HR3.out HM3.out nbB nAB (by rw [HBq.out]; omega))
          have HF := Lib.hid (fin_facts (.int .i64 3) (.string ⟨t.toArray⟩) (.int .i64 p) rfl HX.out.1 HX.out.2.1 HX.out.2.2 nbA (by rw [HAq.out]; exact Nat.le_refl _))
          go_wp2_with fail
          refine bodyPost_ret (results_token rfl _ _ A (.int .i64 0) _ _ _ rfl rfl HF.out.1) rfl ?_
          exact Or.inl ⟨3, t, n, by rw [hTc, Lex.tok_quote HL.out HDg.out H34.out, Hs.out], hn2, hn1, rfl, HF.out.2.1, HF.out.2.2⟩
      · rw [decide_eq_false h34] at e34
        have H34 := Lib.hid h34
        clear h34
        obtain ⟨bs, hbs⟩ : ∃ v, Lex.isSym c = v := ⟨_, rfl⟩
        rw [hbs] at e16
        have HSy := Lib.hid hbs
        clear hbs
        cases bs with
        | true =>
          obtain ⟨ta, tb⟩ := HT2.out
          have b0 := tb.cell 0
          have b1 := tb.cell 1
          have b2 := tb.cell 2
          have fb0 := tb.frozen 0
          have fb1 := tb.frozen 1
          have k0 := HR2.out.text
          have k1 := HR2.out.pos
          obtain ⟨P, HP⟩ : ∃ x, Hid (x = p + 1) := ⟨_, Lib.hid rfl⟩
          have hP : (p : Int) + 1 = (P : Int) := by rw [HP.out]; push_cast; rfl
          have hp9 : (P : Int) ≤ 140737488351233 := by have := HP.out; omega
          have hp8 : (P : Int) ≤ (T.size : Int) := by have := HP.out; omega
          have hp7 : (0 : Int) ≤ (P : Int) := by omega
          have hp6 : (p : Int) ≤ (P : Int) := by have := HP.out; omega
          simp only [List.getElem?_toArray, List.getElem?_cons_zero, List.getElem?_cons_succ] at b0 b1 b2
          go_wp2_with fail
          go_region
          have a0 := ta.cell 0
          have a1 := ta.cell 1
          have a2 := ta.cell 2
          have fa0 := ta.frozen 0
          have fa1 := ta.frozen 1
          have fa2 := ta.frozen 2
          have fr1 := HR2.out.frozen 1
          simp only [List.getElem?_toArray, List.getElem?_cons_zero, List.getElem?_cons_succ] at a0 a1 a2
          have nbA' : ¬ A = b := by omega
          have nbB' : ¬ B = b := by omega
          have nAB' : ¬ B = A := by omega
          have HX := Lib.hid (text_facts (B := B) (.int .i64 4) (.string (T.extract p P)) ta HR2.out HM2.out nbB nAB (by rw [HBq.out]; omega))
          have HX2 := Lib.hid (And.intro (Whole.far (p := ⟨b, 1, none⟩) HX.out.1 nbA' (.int .i64 P)) (And.intro (HX.out.2.1.set P) (HX.out.2.2.setCell (p := ⟨b, 1, none⟩) (Or.inl rfl) (.int .i64 P))))
          have HF := Lib.hid (fin_facts (.int .i64 4) (.string (T.extract p P)) (.int .i64 p) rfl HX2.out.1 HX2.out.2.1 HX2.out.2.2 nbA (by rw [HAq.out]; exact Nat.le_refl _))
          go_wp2_with fail
          refine bodyPost_ret (results_token rfl _ _ A (.int .i64 0) _ _ _ rfl rfl HF.out.1.drew) rfl ?_
          exact Or.inl ⟨4, [c], P, by rw [hTc, Lex.tok_rest HL.out HDg.out H34.out, HSy.out, HP.out]; rfl, by have := HP.out; omega, by omega, by rw [HP.out, Lex.extract_one hp, hTc]; rfl, HF.out.2.1.drew, HF.out.2.2.drew⟩
        | false =>
          obtain ⟨ta, tb⟩ := HT2.out
          have a0 := ta.cell 0
          have a1 := ta.cell 1
          have a2 := ta.cell 2
          have b0 := tb.cell 0
          have b1 := tb.cell 1
          have b2 := tb.cell 2
          have fa0 := ta.frozen 0
          have fa1 := ta.frozen 1
          have fa2 := ta.frozen 2
          have fb0 := tb.frozen 0
          have fb1 := tb.frozen 1
          simp only [List.getElem?_toArray, List.getElem?_cons_zero, List.getElem?_cons_succ] at a0 a1 a2 b0 b1 b2
          have HTa := Lib.hid ta
          clear ta tb
          have HF := Lib.hid (fin_facts (.int .i64 0) (.string ⟨#[]⟩) (.int .i64 p) rfl HTa.out HR2.out HM2.out nbA (by rw [HAq.out]; exact Nat.le_refl _))
          go_wp2_with fail
          refine bodyPost_ret (results_token rfl _ _ A (.int .i64 10) _ _ _ rfl rfl HF.out.1) rfl ?_
          exact Or.inr ⟨10, _, _, p, by rw [hTc, Lex.tok_rest HL.out HDg.out H34.out, HSy.out]; rfl, by decide, rfl, HF.out.2.1, HF.out.2.2⟩

end Go.Proofs.Ytocbebkcpmodnaa
