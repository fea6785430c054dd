/- The reader of a text in memory; the closures that its methods hand on. -/
import Derived.Test.YtfkejnnbfneieaaGreatDoorLexMath
import Derived.Test.YtfkejnnbfneieaaGreatDoorTwo
import Derived.Test.YtfkejnnbfneieaaGreatDoorOnly
import Derived.WalkMore
import Derived.Test.YtfkejnnbfneieaaGreatDoorBuilder
import Derived.Test.YtfkejnnbfneieaaGreatDoorQuietTail
import Derived.Lib.Strings
import Derived.Lib.SlicesS
import Derived.RegionTactic
import Derived.BigRegion
namespace Go.Proofs.YtfkejnnbfneieaaGreatDoor
open Go.RowKit

namespace Lex
/-- The class of a byte. -/
def clsN (c : UInt8) : Nat := if isLetter c then 1 else if isDigit c then 2 else if c.toNat = 95 then 4 else if isBlank c then 8 else if isSym c then 16 else 0
def clsL : List Value := (List.range 256).map fun c => .int .i64 (clsN (UInt8.ofNat c))
theorem clsL_len : clsL.length = 256 := by unfold clsL; simp
theorem clsL_at (c : UInt8) : clsL[c.toNat]? = some (.int .i64 (clsN c)) := by
  have h : c.toNat < 256 := c.toNat_lt
  unfold clsL
  rw [List.getElem?_map, List.getElem?_range h]
  simp
end Lex

/-- Block b is a reader of the text T that stands at p. -/
def Rd (w : World) (b : Nat) (T : ByteArray) (p : Nat) : Prop := Whole w b 94 (#[.string T, .int .i64 p] ++ Lex.clsL.toArray)
section
variable {w w' : World} {b p : Nat} {T : ByteArray}
theorem Rd.lt (h : Rd w b T p) : b < w.heap.size := Whole.lt h
theorem Rd.text (h : Rd w b T p) : w.cell? ⟨b, 0, none⟩ = some (.string T) := by rw [Whole.cell h]; simp
theorem Rd.pos (h : Rd w b T p) : w.cell? ⟨b, 1, none⟩ = some (.int .i64 p) := by rw [Whole.cell h]; simp
theorem Rd.cls (h : Rd w b T p) (c : UInt8) : w.cell? ⟨b, 2 + c.toNat, none⟩ = some (.int .i64 (Lex.clsN c)) := by
  rw [Whole.cell h, Array.getElem?_append_right (by simp)]
  have e : 2 + c.toNat - (#[Value.string T, Value.int IntKind.i64 ↑p] : Array Value).size = c.toNat := by simp
  rw [e, List.getElem?_toArray]
  exact Lex.clsL_at c
theorem Rd.frozen (h : Rd w b T p) (i : Nat) : w.frozen? ⟨b, i, none⟩ = false := Whole.frozen h i
theorem Rd.set (h : Rd w b T p) (q : Nat) : Rd (w.setCell ⟨b, 1, none⟩ (.int .i64 q)) b T q := by
  have := Whole.set h 1 (.int .i64 q)
  unfold Rd
  have e : (#[Value.string T, Value.int IntKind.i64 ↑p] ++ Lex.clsL.toArray).setIfInBounds 1 (.int .i64 q) = #[Value.string T, Value.int IntKind.i64 ↑q] ++ Lex.clsL.toArray := by
    simp
  rw [← e]
  exact this
theorem Rd.below (h : Rd w b T p) (hb : Below w.heap.size w w') : Rd w' b T p := (hb.block _ (Whole.lt h)).trans h
theorem Rd.drew (h : Rd w b T p) : Rd w.drew b T p := h
end
/-- What is kept below B, seen from a world that has more. -/
theorem Only.of_low {B : Nat} {w w' : World} (h : Below B w w') (_ : B ≤ w.heap.size) : Only (fun x => B ≤ x) w w' := ⟨h.os, h.tape, h.output, h.size, fun k _ hk => h.block k (by omega)⟩
/-- Only block b differs, and what is new. -/
abbrev Mv (b : Nat) (w w' : World) : Prop := Only (fun x => x = b) w w'

set_option maxHeartbeats 1000000 in
theorem skip1_any (c : UInt8) (w : World) : Calls Tryz.prog 105 #[.int .u8 c.toNat] w fun e w' => e = .returned (.bool (decide (c.toNat ≠ 10))) ∧ w = w' := by
  go_enter Tryz.func105, Tryz.ntmps105
  by_cases h : c.toNat = 10
  · have h1 : (c.toNat : Int) = 10 := by omega
    go_wp2
    go_ret
    exact ⟨ret_bool (by rw [h]; rfl), rfl⟩
  · have h1 : ¬ (c.toNat : Int) = 10 := by omega
    go_wp2
    go_ret
    exact ⟨ret_bool (by simp [h, h1]), rfl⟩

end Go.Proofs.YtfkejnnbfneieaaGreatDoor

/- The walks of the reader's methods while and word. -/
namespace Go.Proofs.YtfkejnnbfneieaaGreatDoor
open Go.RowKit

namespace Lex
theorem take_len {p : UInt8 → Bool} {T : ByteArray} {a q : Nat} (h1 : a ≤ q) (h2 : q < T.size) (h : ∀ j, a ≤ j → (hj : j < q) → (hjT : j < T.size) → p T[j] = true) (hq : p T[q] = false) : q = a + ((T.data.toList.drop a).takeWhile p).length := by
  obtain ⟨n, rfl⟩ : ∃ n, q = a + n := ⟨q - a, by omega⟩
  have hlen : T.data.toList.length = T.size := rfl
  have e : T.data.toList.drop a = (T.data.toList.drop a).take n ++ T.data.toList.drop (a + n) := by
    rw [← List.drop_drop]; exact (List.take_append_drop n _).symm
  have := take_of p ((T.data.toList.drop a).take n) (T.data.toList.drop (a + n)) (fun c hc => by
    obtain ⟨i, hi, rfl⟩ := List.mem_iff_getElem.1 hc
    rw [List.length_take, List.length_drop] at hi
    rw [List.getElem_take, List.getElem_drop]
    exact h (a + i) (by omega) (by omega) (by omega)) (fun c hc => by
    rw [List.head?_drop, List.getElem?_eq_getElem (by omega)] at hc
    obtain rfl := Option.some.inj hc
    exact hq)
  rw [e, this.1, List.length_take, List.length_drop]
  omega
theorem take_all_len {p : UInt8 → Bool} {T : ByteArray} {a q : Nat} (h1 : a ≤ q) (h2 : q ≤ T.size) (h3 : ¬ q < T.size) (h : ∀ j, a ≤ j → (hj : j < q) → (hjT : j < T.size) → p T[j] = true) : q = a + ((T.data.toList.drop a).takeWhile p).length := by
  have hlen : T.data.toList.length = T.size := rfl
  have := take_of p (T.data.toList.drop a) [] (fun c hc => by
    obtain ⟨i, hi, rfl⟩ := List.mem_iff_getElem.1 hc
    rw [List.length_drop] at hi
    rw [List.getElem_drop]
    exact h (a + i) (by omega) (by omega) (by omega)) (fun c hc => by simp at hc)
  rw [List.append_nil] at this
  rw [this.1, List.length_drop]
  omega
end Lex
/-- Where a reader stands. -/
def posOf (w : World) (b : Nat) : Nat := match w.cell? ⟨b, 1, none⟩ with | some (.int _ x) => x.toNat | _ => 0
theorem Rd.posOf {w : World} {b p : Nat} {T : ByteArray} (h : Rd w b T p) : posOf w b = p := by
  unfold Go.Proofs.YtfkejnnbfneieaaGreatDoor.posOf
  rw [h.pos]
  simp

set_option maxRecDepth 100000 in
set_option maxHeartbeats 2000000 in
theorem while_any (F : FuncId) (caps : Array Value) (p : UInt8 → Bool) (b : Nat) (T : ByteArray) (at_ : Nat) (hat : at_ ≤ T.size) (hT : T.size ≤ 140737488351232) (W : World) (h : Rd W b T at_)
    (hcall : ∀ args w, (callFunc F args).run Tryz.prog w = .ok (.enter F args) w) (HF : ∀ w, Mv b W w → ∀ q, Rd w b T q → ∀ c : UInt8, Calls Tryz.prog F (#[.int .u8 c.toNat] ++ caps) w fun e w' => e = .returned (.bool (p c)) ∧ Below w.heap.size w w') :
    Calls Tryz.prog 104 #[.pointer (some ⟨b, 0, none⟩), .func (.func F) #[] caps] W fun e w' =>
      ∃ n, n = at_ + ((T.data.toList.drop at_).takeWhile p).length ∧ e = .returned (.string (T.extract at_ n)) ∧ Rd w' b T n ∧ Mv b W w' := by
  go_enter Tryz.func104, Tryz.ntmps104
  have k0 := h.text
  have k1 := h.pos
  have hlt := h.lt
  have HFH := Lib.hid HF
  have HCl := Lib.hid hcall
  clear HF hcall
  have H0 := Lib.hid h
  clear h
  go_wp2_with fail
  clear k0 k1
  go_loopw [] (fun wr => ∃ q, at_ ≤ q ∧ q ≤ T.size ∧ Hid (Rd wr b T q ∧ Mv b W wr ∧ ∀ j, at_ ≤ j → (hj : j < q) → (hjT : j < T.size) → p T[j] = true)) (fun wr => T.size - posOf wr b)
  case atStart => exact ⟨at_, Nat.le_refl _, hat, Lib.hid ⟨H0.out, Only.refl _ _, fun j h1 h2 _ => by omega⟩⟩
  case round =>
    obtain ⟨q, hq1, hq2, HR⟩ := hrel
    have k0 := HR.out.1.text
    have k1 := HR.out.1.pos
    have hlt' := HR.out.1.lt
    have g0 : ∀ X : Grown wr, X.w.cell? ⟨b, 0, none⟩ = some (.string T) := fun X => by rw [X.cell hlt']; exact k0
    have g1 : ∀ X : Grown wr, X.w.cell? ⟨b, 1, none⟩ = some (.int .i64 q) := fun X => by rw [X.cell hlt']; exact k1
    by_cases hqT : q < T.size
    · have hd : decide ((q : Int) < (T.size : Int)) = true := decide_eq_true (by omega)
      have hb0 : (0 : Int) ≤ q := by omega
      have hb1 : (q : Int) < (T.size : Int) := by omega
      go_wp2_with fail
      refine wp_region_grown (by kernel_rfl) (by kernel_rfl) ?_
      have HFG : Hid (∀ (X : Grown wr) (c : UInt8), Calls Tryz.prog F (#[.int .u8 c.toNat] ++ caps) X.w fun e w' => e = .returned (.bool (p c)) ∧ Below X.w.heap.size X.w w') := Lib.hid fun X c => HFH.out X.w (HR.out.2.1.trans (Only.of_below _ X.below)) q (HR.out.1.below X.below) c
      iterate 21 (go_big_quiet_step (fail))
      go_big_quiet_step ((simp only [HCl.out]; exact ⟨trivial, grown_of (HFG.out _ _)⟩))
      repeat (go_big_quiet_step (fail))
      refine wpQuiet_nil ?_
      rintro _ ⟨X, rfl⟩
      obtain ⟨X', HX'⟩ : ∃ x, Hid (x = X.w) := ⟨_, Lib.hid rfl⟩
      have HRX : Hid (Rd X' b T q ∧ Mv b W X') := Lib.hid (by rw [HX'.out]; exact ⟨HR.out.1.below X.below, HR.out.2.1.trans (Only.of_below _ X.below)⟩)
      rw [← HX'.out]
      obtain ⟨pv, hpv⟩ : ∃ v, p T[q] = v := ⟨_, rfl⟩
      rw [hpv]
      cases pv with
      | true =>
        have k1' := HRX.out.1.pos
        have f1' := HRX.out.1.frozen 1
        have hq9 : (q : Int) + 1 ≤ 140737488351233 := by omega
        have HRn : Hid (Rd (X'.setCell ⟨b, 1, none⟩ (.int .i64 ((q : Int) + 1))) b T (q + 1) ∧ Mv b W (X'.setCell ⟨b, 1, none⟩ (.int .i64 ((q : Int) + 1))) ∧ ∀ j, at_ ≤ j → (hj : j < q + 1) → (hjT : j < T.size) → p T[j] = true) := Lib.hid ⟨by
          have := HRX.out.1.set (q + 1)
          push_cast at this
          exact this, HRX.out.2.setCell (Or.inl rfl) _, fun j h1 h2 h3 => by
            by_cases hjq : j = q
            · subst hjq; exact hpv
            · exact HR.out.2.2 j h1 (by omega) h3⟩
        go_wp2_with fail
        go_round
        case rel => exact ⟨q + 1, by omega, by omega, HRn⟩
        case measure => rw [HRn.out.1.posOf, HR.out.1.posOf]; omega
      | false =>
        have HN : Hid (q = at_ + ((T.data.toList.drop at_).takeWhile p).length) := Lib.hid (Lex.take_len hq1 hqT HR.out.2.2 hpv)
        have k0' := HRX.out.1.text
        have k1' := HRX.out.1.pos
        have hltX := HRX.out.1.lt
        have g0' : ∀ Y : Grown X', Y.w.cell? ⟨b, 0, none⟩ = some (.string T) := fun Y => by rw [Y.cell hltX]; exact k0'
        have g1' : ∀ Y : Grown X', Y.w.cell? ⟨b, 1, none⟩ = some (.int .i64 q) := fun Y => by rw [Y.cell hltX]; exact k1'
        have hs1 : (at_ : Int) ≤ q := by omega
        have hs2 : (q : Int) ≤ T.size := by omega
        have hs0 : (0 : Int) ≤ at_ := by omega
        go_wp2_with fail
        refine wp_region_grown (by kernel_rfl) (by kernel_rfl) ?_
        repeat (go_big_quiet_step (fail))
        refine wpQuiet_nil ?_
        rintro _ ⟨Y, rfl⟩
        have HY : Hid (Rd Y.w b T q ∧ Mv b W Y.w) := Lib.hid ⟨HRX.out.1.below Y.below, HRX.out.2.trans (Only.of_below _ Y.below)⟩
        go_wp2_with fail
        go_ret
        refine ⟨q, HN.out, rfl, HY.out.1, HY.out.2⟩
    · have hd : decide ((q : Int) < (T.size : Int)) = false := decide_eq_false (by omega)
      go_wp2_with fail
      refine wp_region_grown (by kernel_rfl) (by kernel_rfl) ?_
      repeat (go_big_quiet_step (fail))
      refine wpQuiet_nil ?_
      rintro _ ⟨X, rfl⟩
      obtain ⟨X', HX'⟩ : ∃ x, Hid (x = X.w) := ⟨_, Lib.hid rfl⟩
      have HRX : Hid (Rd X' b T q ∧ Mv b W X') := Lib.hid (by rw [HX'.out]; exact ⟨HR.out.1.below X.below, HR.out.2.1.trans (Only.of_below _ X.below)⟩)
      rw [← HX'.out]
      have HN : Hid (q = at_ + ((T.data.toList.drop at_).takeWhile p).length) := Lib.hid (Lex.take_all_len hq1 hq2 hqT HR.out.2.2)
      have k0' := HRX.out.1.text
      have k1' := HRX.out.1.pos
      have hltX := HRX.out.1.lt
      have g0' : ∀ Y : Grown X', Y.w.cell? ⟨b, 0, none⟩ = some (.string T) := fun Y => by rw [Y.cell hltX]; exact k0'
      have g1' : ∀ Y : Grown X', Y.w.cell? ⟨b, 1, none⟩ = some (.int .i64 q) := fun Y => by rw [Y.cell hltX]; exact k1'
      have hs1 : (at_ : Int) ≤ q := by omega
      have hs2 : (q : Int) ≤ T.size := by omega
      have hs0 : (0 : Int) ≤ at_ := by omega
      go_wp2_with fail
      refine wp_region_grown (by kernel_rfl) (by kernel_rfl) ?_
      repeat (go_big_quiet_step (fail))
      refine wpQuiet_nil ?_
      rintro _ ⟨Y, rfl⟩
      have HY : Hid (Rd Y.w b T q ∧ Mv b W Y.w) := Lib.hid ⟨HRX.out.1.below Y.below, HRX.out.2.trans (Only.of_below _ Y.below)⟩
      go_wp2_with fail
      go_ret
      refine ⟨q, HN.out, rfl, HY.out.1, HY.out.2⟩

end Go.Proofs.YtfkejnnbfneieaaGreatDoor

/- The walks of the reader's methods skip and word. -/
namespace Go.Proofs.YtfkejnnbfneieaaGreatDoor
open Go.RowKit

namespace Lex
theorem drop_cons {T : ByteArray} {q : Nat} (h : q < T.size) : T.data.toList.drop q = T[q] :: T.data.toList.drop (q + 1) := List.drop_eq_getElem_cons (show q < T.data.toList.length from h)
theorem by_all {Q : UInt8 → Bool} (h : ((List.range 256).all fun n => Q (UInt8.ofNat n)) = true) (c : UInt8) : Q c = true := by
  have := List.all_eq_true.1 h c.toNat (List.mem_range.2 c.toNat_lt)
  simpa using this
def clsQ (c : UInt8) : Bool := (decide (clsN c = 8) == isBlank c) && (decide (clsN c = 1) == isLetter c) && (decide (clsN c = 2) == isDigit c) && (decide (clsN c = 16) == isSym c) && ((clsN c &&& 7 != 0) == isWord c) && ((clsN c &&& 2 != 0) == isDigit c) && decide (clsN c ≤ 16)
theorem clsN_eq (c : UInt8) : clsQ c = true := by_all (Q := clsQ) (by kernel_rfl) c
theorem clsN_blank (c : UInt8) : decide (clsN c = 8) = isBlank c := by
  have h := clsN_eq c
  unfold clsQ at h
  simp only [Bool.and_eq_true, beq_iff_eq] at h
  exact h.1.1.1.1.1.1
theorem drop_while (p : UInt8 → Bool) (l : List UInt8) : l.drop (l.takeWhile p).length = l.dropWhile p := by
  induction l with
  | nil => rfl
  | cons a l ih =>
    rw [List.takeWhile_cons, List.dropWhile_cons]
    split
    · exact ih
    · rfl
theorem skip_comment (r : List UInt8) : skip true r = skip false (r.dropWhile fun c => decide (c.toNat ≠ 10)) := by
  induction r with
  | nil => rfl
  | cons c r ih =>
    rw [skip_t, List.dropWhile_cons]
    by_cases h : c.toNat = 10
    · rw [if_pos h, if_neg (by simp [h]), skip_f, if_pos (by unfold isBlank; simp [h])]
    · rw [if_neg h, if_pos (by simp [h])]; exact ih
theorem skip_while {T : ByteArray} {q n : Nat} (hq : q < T.size) (h35 : T[q].toNat = 35) (hn : n = q + ((T.data.toList.drop q).takeWhile fun c => decide (c.toNat ≠ 10)).length) :
    skip false (T.data.toList.drop n) = skip false (T.data.toList.drop q) ∧ q < n ∧ n ≤ T.size := by
  have e : T.data.toList.drop n = (T.data.toList.drop q).dropWhile fun c => decide (c.toNat ≠ 10) := by
    rw [hn, ← List.drop_drop, drop_while]
  refine ⟨?_, ?_, ?_⟩
  · rw [e, drop_cons hq, skip_f, if_neg (by unfold isBlank; simp [h35]), if_pos h35, List.dropWhile_cons, if_pos (by simp [h35]), skip_comment]
  · rw [hn, drop_cons hq, List.takeWhile_cons, if_pos (by simp [h35])]
    simp
  · rw [hn]
    have := (List.takeWhile_sublist (fun c : UInt8 => decide (c.toNat ≠ 10)) (l := T.data.toList.drop q)).length_le
    rw [List.length_drop] at this
    have hlen : T.data.toList.length = T.size := rfl
    omega
end Lex

theorem call_skip1 : ∀ args w, (callFunc 105 args).run Tryz.prog w = .ok (.enter 105 args) w := fun _ _ => by kernel_rfl
theorem call_word1 : ∀ args w, (callFunc 128 args).run Tryz.prog w = .ok (.enter 128 args) w := fun _ _ => by kernel_rfl

set_option maxRecDepth 100000 in
set_option maxHeartbeats 2000000 in
theorem rskip_any (b : Nat) (T : ByteArray) (at_ : Nat) (hat : at_ ≤ T.size) (hT : T.size ≤ 140737488351232) (W : World) (h : Rd W b T at_) :
    Calls Tryz.prog 81 #[.pointer (some ⟨b, 0, none⟩)] W fun e w' =>
      ∃ n, n ≤ T.size ∧ at_ ≤ n ∧ T.data.toList.drop n = Lex.skip false (T.data.toList.drop at_) ∧ e = .returned (.tuple #[]) ∧ Rd w' b T n ∧ Mv b W w' := by
  go_enter Tryz.func81, Tryz.ntmps81
  have H0 := Lib.hid h
  clear h
  have HWh : Hid (∀ w q, q ≤ T.size → Rd w b T q → Calls Tryz.prog 104 #[.pointer (some ⟨b, 0, none⟩), .func (.func 105) #[] #[]] w fun e w' =>
      ∃ n, n = q + ((T.data.toList.drop q).takeWhile fun c => decide (c.toNat ≠ 10)).length ∧ e = .returned (.string (T.extract q n)) ∧ Rd w' b T n ∧ Mv b w w') := Lib.hid fun w q hq hR =>
    while_any _ #[] (fun c => decide (c.toNat ≠ 10)) b T q hq hT w hR call_skip1 fun w _ q _ c => (skip1_any c w).mono fun e w' h => ⟨h.1, h.2 ▸ Below.refl _ _⟩
  go_wp2_with fail
  go_step3
  go_wp2_with fail
  go_step3
  go_wp2_with fail
  go_loopw [] (fun wr => ∃ q, q ≤ T.size ∧ at_ ≤ q ∧ Hid (Rd wr b T q ∧ Mv b W wr ∧ Lex.skip false (T.data.toList.drop q) = Lex.skip false (T.data.toList.drop at_))) (fun wr => T.size - posOf wr b)
  case atStart => exact ⟨at_, hat, Nat.le_refl _, Lib.hid ⟨H0.out, Only.refl _ _, rfl⟩⟩
  case round =>
    obtain ⟨q, hq2, hq1, HR⟩ := hrel
    have k0 := HR.out.1.text
    have k1 := HR.out.1.pos
    have hlt' := HR.out.1.lt
    have g0 : ∀ X : Grown wr, X.w.cell? ⟨b, 0, none⟩ = some (.string T) := fun X => by rw [X.cell hlt']; exact k0
    have g1 : ∀ X : Grown wr, X.w.cell? ⟨b, 1, none⟩ = some (.int .i64 q) := fun X => by rw [X.cell hlt']; exact k1
    by_cases hqT : q < T.size
    · have hd : decide ((q : Int) < (T.size : Int)) = true := decide_eq_true (by omega)
      have hb0 : (0 : Int) ≤ q := by omega
      have hb1 : (q : Int) < (T.size : Int) := by omega
      go_wp2_with fail
      refine wp_region_grown (by kernel_rfl) (by kernel_rfl) ?_
      repeat (go_big_quiet_step (fail))
      refine wpQuiet_nil ?_
      rintro _ ⟨X, rfl⟩
      obtain ⟨X', HX'⟩ : ∃ x, Hid (x = X.w) := ⟨_, Lib.hid rfl⟩
      have HRX : Hid (Rd X' b T q ∧ Mv b W X') := Lib.hid (by rw [HX'.out]; exact ⟨HR.out.1.below X.below, HR.out.2.1.trans (Only.of_below _ X.below)⟩)
      rw [← HX'.out]
      have k0' := HRX.out.1.text
      have k1' := HRX.out.1.pos
      have hltX := HRX.out.1.lt
      have g0' : ∀ Y : Grown X', Y.w.cell? ⟨b, 0, none⟩ = some (.string T) := fun Y => by rw [Y.cell hltX]; exact k0'
      have g1' : ∀ Y : Grown X', Y.w.cell? ⟨b, 1, none⟩ = some (.int .i64 q) := fun Y => by rw [Y.cell hltX]; exact k1'
      go_wp2_with fail
      refine wp_region_grown (by kernel_rfl) (by kernel_rfl) ?_
      repeat (go_big_quiet_step (fail))
      refine wpQuiet_nil ?_
      rintro _ ⟨Y, rfl⟩
      obtain ⟨Y', HY'⟩ : ∃ x, Hid (x = Y.w) := ⟨_, Lib.hid rfl⟩
      have HRY : Hid (Rd Y' b T q ∧ Mv b W Y') := Lib.hid (by rw [HY'.out]; exact ⟨HRX.out.1.below Y.below, HRX.out.2.trans (Only.of_below _ Y.below)⟩)
      rw [← HY'.out]
      obtain ⟨c, Hc⟩ : ∃ c, Hid (c = T[q]) := ⟨_, Lib.hid rfl⟩
      rw [← Hc.out]
      have kc := HRY.out.1.cls c
      have hc1 : (c.toNat : Int) < 256 := by have := c.toNat_lt; omega
      have hc0 : (0 : Int) ≤ c.toNat := by omega
      have e8 : ((Lex.clsN c : Int) == 8) = Lex.isBlank c := by
        rw [← Lex.clsN_blank]
        have : ((Lex.clsN c : Int) == 8) = decide ((Lex.clsN c : Int) = 8) := rfl
        rw [this, decide_eq_decide]; omega
      have e35 : ((c.toNat : Int) == 35) = decide (c.toNat = 35) := by
        have : ((c.toNat : Int) == 35) = decide ((c.toNat : Int) = 35) := rfl
        rw [this, decide_eq_decide]; omega
      obtain ⟨bl, hbl⟩ : ∃ v, Lex.isBlank c = v := ⟨_, rfl⟩
      rw [hbl] at e8
      cases bl with
      | true =>
        have k1'' := HRY.out.1.pos
        have f1'' := HRY.out.1.frozen 1
        have hq9 : (q : Int) + 1 ≤ 140737488351233 := by omega
        have HRn : Hid (Rd (Y'.setCell ⟨b, 1, none⟩ (.int .i64 ((q : Int) + 1))) b T (q + 1) ∧ Mv b W (Y'.setCell ⟨b, 1, none⟩ (.int .i64 ((q : Int) + 1))) ∧ Lex.skip false (T.data.toList.drop (q + 1)) = Lex.skip false (T.data.toList.drop at_)) := Lib.hid ⟨by
          have := HRY.out.1.set (q + 1)
          push_cast at this
          exact this, HRY.out.2.setCell (Or.inl rfl) _, by
          rw [← HR.out.2.2, Lex.drop_cons hqT, Lex.skip_f, if_pos (by rw [← Hc.out]; exact hbl)]⟩
        go_wp2_with fail
        go_round
        case rel => exact ⟨q + 1, by omega, by omega, HRn⟩
        case measure => rw [HRn.out.1.posOf, HR.out.1.posOf]; omega
      | false =>
        by_cases h35 : c.toNat = 35
        · rw [decide_eq_true h35] at e35
          have H35 := Lib.hid h35
          clear h35
          go_wp2_with fail
          refine (HWh.out Y' q hq2 HRY.out.1).mono ?_
          rintro e w2 ⟨n, hn, rfl, hR2, hM2⟩
          obtain ⟨s1, s2, s3⟩ := Lex.skip_while hqT (by rw [← Hc.out]; exact H35.out) hn
          have HRn : Hid (Rd w2 b T n ∧ Mv b W w2 ∧ Lex.skip false (T.data.toList.drop n) = Lex.skip false (T.data.toList.drop at_)) := Lib.hid ⟨hR2, HRY.out.2.trans hM2, s1.trans HR.out.2.2⟩
          clear s1 hR2 hM2 hn
          go_wp2_with fail
          go_round
          case rel => exact ⟨n, by omega, by omega, HRn⟩
          case measure => rw [HRn.out.1.posOf, HR.out.1.posOf]; omega
        · rw [decide_eq_false h35] at e35
          have HE : Hid (T.data.toList.drop q = Lex.skip false (T.data.toList.drop at_)) := Lib.hid (by
            rw [← HR.out.2.2, Lex.drop_cons hqT, ← Hc.out, Lex.skip_at hbl h35])
          go_wp2_with fail
          simp only [Exit.noGoto]
          go_end0
          exact ⟨q, hq2, hq1, HE.out, rfl, HRY.out.1, HRY.out.2⟩
    · have hd : decide ((q : Int) < (T.size : Int)) = false := decide_eq_false (by omega)
      have HE : Hid (T.data.toList.drop q = Lex.skip false (T.data.toList.drop at_)) := Lib.hid (by
        rw [← HR.out.2.2, List.drop_eq_nil_of_le (show T.data.toList.length ≤ q by show T.size ≤ q; omega)]; rfl)
      go_wp2_with fail
      refine wp_region_grown (by kernel_rfl) (by kernel_rfl) ?_
      repeat (go_big_quiet_step (fail))
      refine wpQuiet_nil ?_
      rintro _ ⟨X, rfl⟩
      have HY : Hid (Rd X.w b T q ∧ Mv b W X.w) := Lib.hid ⟨HR.out.1.below X.below, HR.out.2.1.trans (Only.of_below _ X.below)⟩
      go_wp2_with fail
      simp only [Exit.noGoto]
      go_end0
      exact ⟨q, hq2, hq1, HE.out, rfl, HY.out.1, HY.out.2⟩

end Go.Proofs.YtfkejnnbfneieaaGreatDoor

/- The walk of the reader's method quoted. -/
namespace Go.Proofs.YtfkejnnbfneieaaGreatDoor
open Go.RowKit

namespace Lex
theorem str_cons {T : ByteArray} {k : Nat} (h : k < T.size) : strD (T.data.toList.drop k) =
    if T[k].toNat = 34 then some ([], T.data.toList.drop (k + 1))
    else if T[k].toNat = 10 then none
    else if T[k].toNat = 92 then
      match T.data.toList.drop (k + 1) with
      | [] => none
      | e :: r' => if e.toNat = 92 ∨ e.toNat = 34 then (strD r').map fun x => (e :: x.1, x.2) else if e.toNat = 110 then (strD r').map fun x => (10 :: x.1, x.2) else none
    else (strD (T.data.toList.drop (k + 1))).map fun x => (T[k] :: x.1, x.2) := by
  rw [drop_cons h]; conv => lhs; unfold strD
  rfl
theorem byte_eq (c : UInt8) (n : Nat) : ((c.toNat : Int) == (n : Int)) = decide (c.toNat = n) := by
  have : ((c.toNat : Int) == (n : Int)) = decide ((c.toNat : Int) = (n : Int)) := rfl
  rw [this, decide_eq_decide]; omega
/-- What has been read, ahead of what is to come. -/
def Upto (T : ByteArray) (p k : Nat) (acc : List UInt8) : Prop := strD (T.data.toList.drop p) = (strD (T.data.toList.drop k)).map fun x => (acc ++ x.1, x.2)
theorem Upto.more {T : ByteArray} {p k k' : Nat} {acc : List UInt8} {c : UInt8} (h : Upto T p k acc) (e : strD (T.data.toList.drop k) = (strD (T.data.toList.drop k')).map fun x => (c :: x.1, x.2)) : Upto T p k' (acc ++ [c]) := by
  unfold Upto at h ⊢
  rw [h, e]
  cases strD (T.data.toList.drop k') <;> simp
theorem Upto.none {T : ByteArray} {p k : Nat} {acc : List UInt8} (h : Upto T p k acc) (e : strD (T.data.toList.drop k) = none) : strD (T.data.toList.drop p) = none := by
  unfold Upto at h
  rw [h, e]; rfl
theorem Upto.some {T : ByteArray} {p k : Nat} {acc r : List UInt8} (h : Upto T p k acc) (e : strD (T.data.toList.drop k) = some ([], r)) : strD (T.data.toList.drop p) = some (acc, r) := by
  unfold Upto at h
  rw [h, e]; simp
end Lex

theorem builder_kept {T e : TypeId} {B b : Nat} {bs : List Value} {w w' : World} (h : Lib.IsBuilder T e B b bs w) (hk : ∀ g, B ≤ g → w'.heap[g]? = w.heap[g]?) : Lib.IsBuilder T e B b bs w' := by
  have key : ∀ q, Lib.BuilderAt T e B b q bs w → Lib.BuilderAt T e B b q bs w' := by
    rintro q ⟨h1, v, h2, h3, h4⟩
    refine ⟨h1, v, (hk b h1).trans h2, ?_, h4⟩
    rcases h3 with ⟨g1, g2 | ⟨g, cap, cur, rfl, hB, hc, rest⟩⟩
    · exact ⟨g1, Or.inl g2⟩
    · exact ⟨g1, Or.inr ⟨g, cap, cur, rfl, hB, (hk g hB).trans hc, rest⟩⟩
  exact h.imp (key _) (key _)
theorem byteCells_snoc (acc : List UInt8) (c : UInt8) : Lib.byteCells acc ++ [.int .u8 c.toNat] = Lib.byteCells (acc ++ [c]) := by
  unfold Lib.byteCells; simp
theorem Rd.low {w w' : World} {B b p : Nat} {T : ByteArray} (h : Rd w b T p) (hb : Below B w w') (hlt : b < B) : Rd w' b T p := (hb.block _ hlt).trans h
/-- What quoted returns, and what it leaves. -/
def QuotedPost (W : World) (b : Nat) (T : ByteArray) (p : Nat) (e : Ending) (w' : World) : Prop :=
  (Lex.strD (T.data.toList.drop (p + 1)) = none ∧ e = .returned (.tuple #[.string ⟨#[]⟩, .bool false]) ∧ Rd w' b T p ∧ Mv b W w') ∨
  ∃ t n, Lex.strD (T.data.toList.drop (p + 1)) = some (t, T.data.toList.drop n) ∧ n ≤ T.size ∧ p < n ∧ e = .returned (.tuple #[.string ⟨t.toArray⟩, .bool true]) ∧ Rd w' b T n ∧ Mv b W w'

set_option maxRecDepth 100000 in
set_option maxHeartbeats 4000000 in
theorem quoted_any (b : Nat) (T : ByteArray) (p : Nat) (hp : p < T.size) (hT : T.size ≤ 1407374883512) (W : World) (h : Rd W b T p) :
    Calls Tryz.prog 107 #[.pointer (some ⟨b, 0, none⟩)] W (QuotedPost W b T p) := by
  have H0 := Lib.hid h
  have hlt := h.lt
  have k1 := h.pos
  clear h
  have hNo : Hid (∀ w', Lex.strD (T.data.toList.drop (p + 1)) = none → Below W.heap.size W w' → QuotedPost W b T p (.returned (.tuple #[.string ⟨#[]⟩, .bool false])) w') := Lib.hid fun w' hs hb => Or.inl ⟨hs, rfl, H0.out.below hb, Only.of_below _ hb⟩
  go_enter Tryz.func107, Tryz.ntmps107
  go_wp2_with fail
  go_loopw [5] (fun i wr => ∃ (k : Nat) (acc : List UInt8), p + 1 ≤ k ∧ k ≤ T.size ∧ acc.length ≤ k ∧ i = .int .i64 k ∧ W.heap.size + 1 ≤ wr.heap.size ∧ Hid (Below W.heap.size W wr ∧ Lib.IsBuilder 109 5 W.heap.size W.heap.size (Lib.byteCells acc) wr ∧ Lex.Upto T (p + 1) k acc)) (fun i wr => T.size - (intOf i).toNat)
  case atStart =>
    refine ⟨p + 1, [], Nat.le_refl _, by omega, by simp, by go_num, by rw [size_alloc]; omega, Lib.hid ⟨(Below.refl _ _).alloc (Nat.le_refl _) _, Or.inl ⟨Nat.le_refl _, .slice none 0 0, ?_, World.ownsRow_nil _ _ _ _, by simp [Value.ownBlock]⟩, ?_⟩⟩
    · exact Whole.new _ _ _
    · unfold Lex.Upto
      cases Lex.strD (T.data.toList.drop (p + 1)) <;> simp
  case round =>
    obtain ⟨k, acc, hk1, hk2, hacc, rfl, hsz, HR⟩ := hrel
    have hRr : Rd wr b T p := H0.out.below HR.out.1
    have k0 := hRr.text
    have f1 := hRr.frozen 1
    have k1' := hRr.pos
    have HRr := Lib.hid hRr
    clear hRr
    by_cases hkT : k < T.size
    · have hd : decide ((k : Int) < (T.size : Int)) = true := decide_eq_true (by omega)
      have hb0 : (0 : Int) ≤ k := by omega
      have hb1 : (k : Int) < (T.size : Int) := by omega
      obtain ⟨c, Hc⟩ : ∃ c, Hid (c = T[k]) := ⟨_, Lib.hid rfl⟩
      have hTc : T[k] = c := Hc.out.symm
      have e34 := Lex.byte_eq c 34
      have e10 := Lex.byte_eq c 10
      have e92 := Lex.byte_eq c 92
      have HS := Lib.hid (Lex.str_cons hkT)
      rw [hTc] at HS
      by_cases h34 : c.toNat = 34
      · have hs := HS.out
        rw [if_pos h34] at hs
        have HU := Lib.hid (HR.out.2.2.some hs)
        rw [decide_eq_true h34] at e34
        clear h34 hs e10 e92
        go_wp2_with fail
        obtain ⟨X, HX⟩ : ∃ x, Hid (x = wr.setCell ⟨b, 1, none⟩ (.int .i64 ((k : Int) + 1))) := ⟨_, Lib.hid rfl⟩
        have HRX : Hid (Rd X b T (k + 1) ∧ Mv b W X ∧ X.heap.size = wr.heap.size) := Lib.hid (by
          rw [HX.out]
          have := HRr.out.set (k + 1)
          push_cast at this
          exact ⟨this, (Only.of_below (fun x => x = b) HR.out.1).setCell (p := ⟨b, 1, none⟩) (Or.inl rfl) _, by simp⟩)
        have hIB : Lib.IsBuilder 109 5 W.heap.size W.heap.size (Lib.byteCells acc) X := by
          rw [HX.out]
          exact builder_kept HR.out.2.1 fun g hg => Below.heap_setCell wr _ _ g (by show g ≠ b; omega)
        have hWX : W.heap.size ≤ X.heap.size := by rw [HRX.out.2.2]; omega
        rw [← HX.out]
        refine (_root_.Go.Proofs.Tryz.Builder_String_any W.heap.size W.heap.size acc X hIB hWX).mono ?_
        rintro e w2 ⟨rfl, hb⟩
        have HF : Hid (Rd w2 b T (k + 1) ∧ Mv b W w2) := Lib.hid ⟨HRX.out.1.low hb hlt, HRX.out.2.1.next (Only.of_low hb hWX) fun g hg => Or.inr hg⟩
        clear hb hIB hWX
        go_wp2_with fail
        go_ret2
        exact Or.inr ⟨acc, k + 1, HU.out, by omega, by omega, rfl, HF.out.1, HF.out.2⟩
      · rw [decide_eq_false h34] at e34
        by_cases h10 : c.toNat = 10
        · have hs := HS.out
          rw [if_neg h34, if_pos h10] at hs
          have HU := Lib.hid (HR.out.2.2.none hs)
          rw [decide_eq_true h10] at e10
          clear h34 h10 hs e92
          go_wp2_with fail
          go_ret2
          exact hNo.out _ HU.out HR.out.1
        · rw [decide_eq_false h10] at e10
          by_cases h92 : c.toNat = 92
          · rw [decide_eq_true h92] at e92
            have hs := HS.out
            rw [if_neg h34, if_neg h10, if_pos h92] at hs
            clear h34 h10 h92
            obtain ⟨K, HK⟩ : ∃ K, Hid (K = k + 1) := ⟨_, Lib.hid rfl⟩
            have hK : (k : Int) + 1 = (K : Int) := by rw [HK.out]; push_cast; rfl
            have hK9 : (K : Int) ≤ 140737488351233 := by omega
            by_cases hk3 : K < T.size
            · have hs1 : ((K : Int) == (T.size : Int)) = false := by
                have : ((K : Int) == (T.size : Int)) = decide ((K : Int) = (T.size : Int)) := rfl
                rw [this, decide_eq_false]; omega
              have hi1 : (K : Int) < (T.size : Int) := by omega
              have hi0 : (0 : Int) ≤ (K : Int) := by omega
              obtain ⟨d, Hd⟩ : ∃ c, Hid (c = T[K]) := ⟨_, Lib.hid rfl⟩
              have hTd : T[K] = d := Hd.out.symm
              rw [← HK.out, Lex.drop_cons hk3, hTd] at hs
              simp only [] at hs
              have d34 := Lex.byte_eq d 34
              have d92 := Lex.byte_eq d 92
              have d110 := Lex.byte_eq d 110
              by_cases g92 : d.toNat = 92
              · rw [decide_eq_true g92] at d92
                rw [if_pos (Or.inl g92)] at hs
                have HU := Lib.hid (HR.out.2.2.more hs)
                clear g92 hs d34 d110
                go_wp2_with fail
                refine (writeByte_any W.heap.size W.heap.size (Lib.byteCells acc) d.toNat wr HR.out.2.1 (by simp [Lib.byteCells]; omega) (by omega)).mono ?_
                rintro e w2 ⟨rfl, hib, hb⟩
                have hib : Lib.IsBuilder 109 5 W.heap.size W.heap.size (Lib.byteCells (acc ++ [d])) w2 := by rw [← byteCells_snoc]; exact hib
                have hsz2 := hb.size
                have HN := Lib.hid (And.intro (HR.out.1.trans hb) (And.intro hib HU.out))
                have hkK : K = k + 1 := HK.out
                clear hib hb hK
                go_wp2_with fail
                go_round
                case rel => exact ⟨K + 1, acc ++ [d], by omega, by omega, by simp; omega, by go_num, by omega, HN⟩
                case measure => simp [intOf]; omega
              · rw [decide_eq_false g92] at d92
                by_cases g34 : d.toNat = 34
                · rw [decide_eq_true g34] at d34
                  rw [if_pos (Or.inr g34)] at hs
                  have HU := Lib.hid (HR.out.2.2.more hs)
                  clear g92 g34 hs d110
                  go_wp2_with fail
                  refine (writeByte_any W.heap.size W.heap.size (Lib.byteCells acc) d.toNat wr HR.out.2.1 (by simp [Lib.byteCells]; omega) (by omega)).mono ?_
                  rintro e w2 ⟨rfl, hib, hb⟩
                  have hib : Lib.IsBuilder 109 5 W.heap.size W.heap.size (Lib.byteCells (acc ++ [d])) w2 := by rw [← byteCells_snoc]; exact hib
                  have hsz2 := hb.size
                  have HN := Lib.hid (And.intro (HR.out.1.trans hb) (And.intro hib HU.out))
                  have hkK : K = k + 1 := HK.out
                  clear hib hb hK
                  go_wp2_with fail
                  go_round
                  case rel => exact ⟨K + 1, acc ++ [d], by omega, by omega, by simp; omega, by go_num, by omega, HN⟩
                  case measure => simp [intOf]; omega
                · rw [decide_eq_false g34] at d34
                  by_cases g110 : d.toNat = 110
                  · rw [decide_eq_true g110] at d110
                    rw [if_neg (fun hx => hx.elim g92 g34), if_pos g110] at hs
                    have HU := Lib.hid (HR.out.2.2.more hs)
                    clear g92 g34 g110 hs
                    go_wp2_with fail
                    refine (writeByte_any W.heap.size W.heap.size (Lib.byteCells acc) 10 wr HR.out.2.1 (by simp [Lib.byteCells]; omega) (by omega)).mono ?_
                    rintro e w2 ⟨rfl, hib, hb⟩
                    have hib : Lib.IsBuilder 109 5 W.heap.size W.heap.size (Lib.byteCells (acc ++ [(10 : UInt8)])) w2 := by rw [← byteCells_snoc]; exact hib
                    have hsz2 := hb.size
                    have HN := Lib.hid (And.intro (HR.out.1.trans hb) (And.intro hib HU.out))
                    have hkK : K = k + 1 := HK.out
                    clear hib hb hK
                    go_wp2_with fail
                    go_round
                    case rel => exact ⟨K + 1, acc ++ [(10 : UInt8)], by omega, by omega, by simp; omega, by go_num, by omega, HN⟩
                    case measure => simp [intOf]; omega
                  · rw [decide_eq_false g110] at d110
                    rw [if_neg (fun hx => hx.elim g92 g34), if_neg g110] at hs
                    have HU := Lib.hid (HR.out.2.2.none hs)
                    clear g92 g34 g110 hs
                    go_wp2_with fail
                    go_ret2
                    exact hNo.out _ HU.out HR.out.1
            · have hs1 : ((K : Int) == (T.size : Int)) = true := by
                have : ((K : Int) == (T.size : Int)) = decide ((K : Int) = (T.size : Int)) := rfl
                rw [this, decide_eq_true]; have := HK.out; omega
              rw [List.drop_eq_nil_of_le (show T.data.toList.length ≤ k + 1 by show T.size ≤ k + 1; omega)] at hs
              have HU := Lib.hid (HR.out.2.2.none hs)
              clear hs
              go_wp2_with fail
              go_ret2
              exact hNo.out _ HU.out HR.out.1
          · rw [decide_eq_false h92] at e92
            have hs := HS.out
            rw [if_neg h34, if_neg h10, if_neg h92] at hs
            have HU := Lib.hid (HR.out.2.2.more hs)
            clear h34 h10 h92 hs
            go_wp2_with fail
            refine (writeByte_any W.heap.size W.heap.size (Lib.byteCells acc) c.toNat wr HR.out.2.1 (by simp [Lib.byteCells]; omega) (by omega)).mono ?_
            rintro e w2 ⟨rfl, hib, hb⟩
            rw [byteCells_snoc] at hib
            have hsz2 := hb.size
            have HN := Lib.hid (And.intro (HR.out.1.trans hb) (And.intro hib HU.out))
            clear hib hb
            go_wp2_with fail
            go_round
            case rel => exact ⟨k + 1, acc ++ [c], by omega, by omega, by simp; omega, by go_num, by omega, HN⟩
            case measure => simp [intOf]; omega
    · have hd : decide ((k : Int) < (T.size : Int)) = false := decide_eq_false (by omega)
      have HU : Hid (Lex.strD (T.data.toList.drop (p + 1)) = none) := Lib.hid (HR.out.2.2.none (by rw [List.drop_eq_nil_of_le (show T.data.toList.length ≤ k by show T.size ≤ k; omega)]; rfl))
      go_wp2_with fail
      go_ret2
      exact hNo.out _ HU.out HR.out.1

end Go.Proofs.YtfkejnnbfneieaaGreatDoor

/- The walk of the reader's method word. -/
namespace Go.Proofs.YtfkejnnbfneieaaGreatDoor
open Go.RowKit

/-- What a word takes: letters, digits and underlines, or digits alone. -/
def Lex.want (m : Nat) (c : UInt8) : Bool := Lex.clsN c &&& m != 0

theorem Lex.clsN_le (c : UInt8) : Lex.clsN c ≤ 16 := by
  have h := Lex.clsN_eq c
  unfold Lex.clsQ at h
  simp only [Bool.and_eq_true, decide_eq_true_eq] at h
  exact h.2
theorem Lex.bits_all : ((List.range 17).all fun a => (List.range 17).all fun m => (bits BinOp.and .i64 (a : Int) (m : Int) != 0) == (a &&& m != 0)) = true := by kernel_rfl
theorem Lex.bits_want {a m : Nat} (ha : a ≤ 16) (hm : m ≤ 16) : (bits BinOp.and .i64 (a : Int) (m : Int) != 0) = (a &&& m != 0) := by
  have := List.all_eq_true.1 (List.all_eq_true.1 Lex.bits_all a (List.mem_range.2 (by omega))) m (List.mem_range.2 (by omega))
  exact beq_iff_eq.1 this
theorem Lex.want_word (c : UInt8) : Lex.want 7 c = Lex.isWord c := by
  have h := Lex.clsN_eq c
  unfold Lex.clsQ at h
  simp only [Bool.and_eq_true, beq_iff_eq] at h
  exact h.1.1.2
theorem Lex.want_digit (c : UInt8) : Lex.want 2 c = Lex.isDigit c := by
  have h := Lex.clsN_eq c
  unfold Lex.clsQ at h
  simp only [Bool.and_eq_true, beq_iff_eq] at h
  exact h.1.2

set_option maxRecDepth 100000 in
set_option maxHeartbeats 2000000 in
theorem word1_any (c : UInt8) (m : Nat) (hm : m ≤ 16) (b br bc p : Nat) (T : ByteArray) (w : World) (h : Rd w b T p) (h1 : w.cell? ⟨br, 0, none⟩ = some (.pointer (some ⟨b, 0, none⟩))) (h2 : w.cell? ⟨bc, 0, none⟩ = some (.int .i64 m)) :
    Calls Tryz.prog 128 #[.int .u8 c.toNat, .pointer (some ⟨br, 0, none⟩), .pointer (some ⟨bc, 0, none⟩)] w fun e w' => e = .returned (.bool (Lex.want m c)) ∧ Below w.heap.size w w' := by
  go_enter Tryz.func128, Tryz.ntmps128
  have kc := h.cls c
  have hlt := h.lt
  have hl1 := lt_of_cell h1
  have hl2 := lt_of_cell h2
  have hc1 : (c.toNat : Int) < 256 := by have := c.toNat_lt; omega
  have hc0 : (0 : Int) ≤ c.toNat := by omega
  have g0 : ∀ X : Grown w, X.w.cell? ⟨br, 0, none⟩ = some (.pointer (some ⟨b, 0, none⟩)) := fun X => by rw [X.cell hl1]; exact h1
  have g1 : ∀ X : Grown w, X.w.cell? ⟨bc, 0, none⟩ = some (.int .i64 m) := fun X => by rw [X.cell hl2]; exact h2
  have g2 : ∀ X : Grown w, X.w.cell? ⟨b, 2 + c.toNat, none⟩ = some (.int .i64 (Lex.clsN c)) := fun X => by rw [X.cell hlt]; exact kc
  go_wp2_with fail
  refine wp_region_grown (by kernel_rfl) (by kernel_rfl) ?_
  repeat (go_big_quiet_step (fail))
  refine wpQuiet_nil ?_
  rintro _ ⟨X, rfl⟩
  go_wp2_with fail
  go_ret
  exact ⟨ret_bool (Lex.bits_want (Lex.clsN_le c) hm), X.below⟩

set_option maxRecDepth 100000 in
set_option maxHeartbeats 2000000 in
theorem word_any (m : Nat) (hm : m ≤ 16) (b : Nat) (T : ByteArray) (at_ : Nat) (hat : at_ ≤ T.size) (hT : T.size ≤ 140737488351232) (W : World) (h : Rd W b T at_) :
    Calls Tryz.prog 106 #[.pointer (some ⟨b, 0, none⟩), .int .i64 m] W fun e w' =>
      ∃ n, n = at_ + ((T.data.toList.drop at_).takeWhile (Lex.want m)).length ∧ e = .returned (.string (T.extract at_ n)) ∧ Rd w' b T n ∧ Mv b W w' := by
  go_enter Tryz.func106, Tryz.ntmps106
  have H0 := Lib.hid h
  have hlt := h.lt
  clear h
  go_wp2_with fail
  obtain ⟨W2, HW2⟩ : ∃ x, Hid (x = (W.alloc (.cells #[.pointer (some ⟨b, 0, none⟩)] 90)).alloc (.cells #[.int .i64 m] 3)) := ⟨_, Lib.hid rfl⟩
  have hB : Below W.heap.size W W2 := by rw [HW2.out]; exact ((Below.refl _ _).alloc (Nat.le_refl _) _).alloc (by rw [size_alloc]; omega) _
  have c1 : W2.cell? ⟨W.heap.size, 0, none⟩ = some (.pointer (some ⟨b, 0, none⟩)) := by rw [HW2.out]; simp [cell_alloc]
  have c2 : W2.cell? ⟨W.heap.size + 1, 0, none⟩ = some (.int .i64 m) := by rw [HW2.out]; simp [cell_alloc]
  rw [← HW2.out]
  refine (while_any _ _ (Lex.want m) b T at_ hat hT W2 (H0.out.below hB) call_word1 fun w hM q hR c => ?_).mono ?_
  · exact word1_any c m hm b W.heap.size (W.heap.size + 1) q T w hR (hM.cell c1 (by omega)) (hM.cell c2 (by omega))
  · rintro e w' ⟨n, hn, rfl, hR, hM⟩
    have HE := Lib.hid (And.intro hn (And.intro hR ((Only.of_below (fun x => x = b) hB).trans hM)))
    clear hn hR hM c1 c2
    go_wp2_with fail
    go_ret
    exact ⟨n, HE.out.1, rfl, HE.out.2.1, HE.out.2.2⟩

end Go.Proofs.YtfkejnnbfneieaaGreatDoor

/- The walk of the reader's method token. -/
namespace Go.Proofs.YtfkejnnbfneieaaGreatDoor
open Go.RowKit

theorem Lex.cls_is (c : UInt8) : (((Lex.clsN c : Int) == 1) = Lex.isLetter c) ∧ (((Lex.clsN c : Int) == 2) = Lex.isDigit c) ∧ (((Lex.clsN c : Int) == 16) = Lex.isSym c) := by
  have h := Lex.clsN_eq c
  unfold Lex.clsQ at h
  simp only [Bool.and_eq_true, beq_iff_eq] at h
  have key : ∀ k : Nat, ((Lex.clsN c : Int) == (k : Int)) = decide (Lex.clsN c = k) := fun k => by
    have : ((Lex.clsN c : Int) == (k : Int)) = decide ((Lex.clsN c : Int) = (k : Int)) := rfl
    rw [this, decide_eq_decide]; omega
  exact ⟨(key 1).trans h.1.1.1.1.1.2, (key 2).trans h.1.1.1.1.2, (key 16).trans h.1.1.1.2⟩
theorem results_token {fn : Func} (h : fn.results = #[.cell 2 71, .tmp 3]) (tmps : Array Value) (w : World) (A : Nat) (u v0 v1 v2 : Value) (h2 : tmps.getD 2 undef = .pointer (some ⟨A, 0, none⟩)) (h3 : tmps.getD 3 undef = u) (hw : Whole w A 71 #[v0, v1, v2]) :
    (results fn tmps).run Tryz.prog w = .ok (.tuple #[.agg #[v0, v1, v2], u]) w := by
  have c0 : w.cell? ⟨A, 0, none⟩ = some v0 := hw.cell 0
  have c1 : w.cell? ⟨A, 1, none⟩ = some v1 := hw.cell 1
  have c2 : w.cell? ⟨A, 2, none⟩ = some v2 := hw.cell 2
  simp only [results, h, List.mapM_toArray, List.mapM_cons, List.mapM_nil, h2, h3]
  go_simp
/-- The result, laid into its variable. -/
theorem fin_facts {W X : World} {A b n : Nat} {T : ByteArray} {cs : Array Value} (x s q : Value) (hz : cs.size = 3) (hA : Whole X A 71 cs) (hR : Rd X b T n) (hM : Mv b W X) (hbA : b ≠ A) (hWA : W.heap.size ≤ A) :
    Whole (((X.setCell ⟨A, 0, none⟩ x).setCell ⟨A, 1, none⟩ s).setCell ⟨A, 2, none⟩ q) A 71 #[x, s, q] ∧ Rd (((X.setCell ⟨A, 0, none⟩ x).setCell ⟨A, 1, none⟩ s).setCell ⟨A, 2, none⟩ q) b T n ∧ Mv b W (((X.setCell ⟨A, 0, none⟩ x).setCell ⟨A, 1, none⟩ s).setCell ⟨A, 2, none⟩ q) := by
  refine ⟨?_, ?_, ?_⟩
  · have := ((hA.set 0 x).set 1 s).set 2 q
    obtain ⟨l⟩ := cs
    match l, hz with
    | [a, b, c], _ => exact this
  · exact ((Whole.far hR (p := ⟨A, 0, none⟩) hbA x).far (p := ⟨A, 1, none⟩) hbA s).far (p := ⟨A, 2, none⟩) hbA q
  · exact ((hM.setCell (p := ⟨A, 0, none⟩) (Or.inr hWA) x).setCell (p := ⟨A, 1, none⟩) (Or.inr hWA) s).setCell (p := ⟨A, 2, none⟩) (Or.inr hWA) q
theorem text_facts {W X : World} {A B b n : Nat} {T : ByteArray} {cs : Array Value} (x s : Value) (hA : Whole X A 71 cs) (hR : Rd X b T n) (hM : Mv b W X) (hbB : b ≠ B) (hAB : A ≠ B) (hWB : W.heap.size ≤ B) :
    Whole ((X.setCell ⟨B, 0, none⟩ x).setCell ⟨B, 1, none⟩ s) A 71 cs ∧ Rd ((X.setCell ⟨B, 0, none⟩ x).setCell ⟨B, 1, none⟩ s) b T n ∧ Mv b W ((X.setCell ⟨B, 0, none⟩ x).setCell ⟨B, 1, none⟩ s) :=
  ⟨(hA.far (p := ⟨B, 0, none⟩) hAB x).far (p := ⟨B, 1, none⟩) hAB s, (Whole.far hR (p := ⟨B, 0, none⟩) hbB x).far (p := ⟨B, 1, none⟩) hbB s, (hM.setCell (p := ⟨B, 0, none⟩) (Or.inr hWB) x).setCell (p := ⟨B, 1, none⟩) (Or.inr hWB) s⟩
namespace Lex
theorem extract_list (T : ByteArray) (p n : Nat) : T.extract p n = ⟨((T.data.toList.drop p).take (n - p)).toArray⟩ := by
  rw [← Lib.extract_data]
theorem take_while (P : UInt8 → Bool) (l : List UInt8) : l.take (l.takeWhile P).length = l.takeWhile P := by
  induction l with
  | nil => rfl
  | cons a l ih =>
    rw [List.takeWhile_cons]
    split
    · rw [List.length_cons, List.take_succ_cons, ih]
    · rfl
theorem word_parts {P : UInt8 → Bool} {T : ByteArray} {p n : Nat} (hp : p < T.size) (hc : P T[p] = true) (hn : n = p + ((T.data.toList.drop p).takeWhile P).length) :
    p < n ∧ n ≤ T.size ∧ T.data.toList.drop n = (T.data.toList.drop (p + 1)).dropWhile P ∧ T.extract p n = ⟨(T[p] :: (T.data.toList.drop (p + 1)).takeWhile P).toArray⟩ := by
  have hlen : T.data.toList.length = T.size := rfl
  have e : (T.data.toList.drop p).takeWhile P = T[p] :: (T.data.toList.drop (p + 1)).takeWhile P := by rw [drop_cons hp, List.takeWhile_cons, if_pos hc]
  have hle := (List.takeWhile_sublist P (l := T.data.toList.drop p)).length_le
  rw [List.length_drop] at hle
  refine ⟨by rw [hn, e]; simp, by omega, ?_, ?_⟩
  · rw [hn, ← List.drop_drop, drop_while, drop_cons hp, List.dropWhile_cons, if_pos hc]
  · rw [extract_list, ← e]
    congr 2
    have : n - p = ((T.data.toList.drop p).takeWhile P).length := by omega
    rw [this, take_while]
theorem extract_one {T : ByteArray} {p : Nat} (h : p < T.size) : T.extract p (p + 1) = ⟨[T[p]].toArray⟩ := by
  rw [extract_list, drop_cons h]
  have : p + 1 - p = 1 := by omega
  rw [this]; rfl
theorem size_list (l : List UInt8) : (⟨l.toArray⟩ : ByteArray).size = l.length := by
  show l.toArray.size = _
  simp
theorem tok_letter {c : UInt8} {r : List UInt8} (h : isLetter c = true) : tok c r = if 24 < (c :: r.takeWhile isWord).length then .err 7 else .ok 1 (c :: r.takeWhile isWord) (r.dropWhile isWord) := by
  unfold tok; rw [if_pos h]
theorem tok_digit {c : UInt8} {r : List UInt8} (h1 : isLetter c = false) (h : isDigit c = true) : tok c r = if 7 < (c :: r.takeWhile isDigit).length ∨ wordAt (r.dropWhile isDigit) = true then .err 11 else .ok 2 (c :: r.takeWhile isDigit) (r.dropWhile isDigit) := by
  unfold tok; rw [if_neg (by rw [h1]; decide), if_pos h]
theorem tok_quote {c : UInt8} {r : List UInt8} (h1 : isLetter c = false) (h2 : isDigit c = false) (h : c.toNat = 34) : tok c r = match strD r with | some x => .ok 3 x.1 x.2 | none => .err 10 := by
  unfold tok; rw [if_neg (by rw [h1]; decide), if_neg (by rw [h2]; decide), if_pos h]
  cases strD r <;> rfl
theorem tok_rest {c : UInt8} {r : List UInt8} (h1 : isLetter c = false) (h2 : isDigit c = false) (h : ¬ c.toNat = 34) : tok c r = if isSym c then .ok 4 [c] r else .err 10 := by
  unfold tok; rw [if_neg (by rw [h1]; decide), if_neg (by rw [h2]; decide), if_neg h]
/-- A word that is taken further on: nothing is taken just if no word stands there. -/
theorem word_none {T : ByteArray} {n m : Nat} (_hn : n ≤ T.size) (hm : m = n + ((T.data.toList.drop n).takeWhile isWord).length) : (T.extract n m = ⟨#[]⟩ ↔ wordAt (T.data.toList.drop n) = false) := by
  rw [extract_list]
  have : m - n = ((T.data.toList.drop n).takeWhile isWord).length := by omega
  rw [this, take_while]
  cases hd : T.data.toList.drop n with
  | nil => simp [wordAt]
  | cons a l =>
    show _ ↔ isWord a = false
    rw [List.takeWhile_cons]
    cases ha : isWord a with
    | true => simp
    | false => simp
end Lex
/-- What token returns, and what it leaves. -/
def TokenPost (W : World) (b : Nat) (T : ByteArray) (p : Nat) (hp : p < T.size) (e : Ending) (w' : World) : Prop :=
  (∃ k t n, Lex.tok T[p] (T.data.toList.drop (p + 1)) = .ok k t (T.data.toList.drop n) ∧ p < n ∧ n ≤ T.size ∧ e = .returned (.tuple #[.agg #[.int .i64 (k : Nat), .string ⟨t.toArray⟩, .int .i64 p], .int .i64 0]) ∧ Rd w' b T n ∧ Mv b W w') ∨
  ∃ x v0 v1 n, Lex.tok T[p] (T.data.toList.drop (p + 1)) = .err x ∧ x ≠ 0 ∧ e = .returned (.tuple #[.agg #[.int .i64 v0, .string v1, .int .i64 p], .int .i64 (x : Nat)]) ∧ Rd w' b T n ∧ Mv b W w'

set_option maxRecDepth 100000 in
set_option maxHeartbeats 4000000 in
theorem token_any (b : Nat) (T : ByteArray) (p : Nat) (hp : p < T.size) (hT : T.size ≤ 1407374883512) (W : World) (h : Rd W b T p) :
    Calls Tryz.prog 82 #[.pointer (some ⟨b, 0, none⟩)] W (TokenPost W b T p hp) := by
  have H0 := Lib.hid h
  have hlt := h.lt
  have k1 := h.pos
  clear h
  go_enter Tryz.func82, Tryz.ntmps82
  go_wp2_with fail
  obtain ⟨A, HAq⟩ : ∃ x, Hid (x = W.heap.size) := ⟨_, Lib.hid rfl⟩
  obtain ⟨B, HBq⟩ : ∃ x, Hid (x = W.heap.size + 1) := ⟨_, Lib.hid rfl⟩
  obtain ⟨W1, HW1⟩ : ∃ x, Hid (x = (W.alloc (.cells #[.int .i64 0, .string ⟨#[]⟩, .int .i64 0] 71)).alloc (.cells #[.int .i64 0, .string ⟨#[]⟩, .int .i64 p] 71)) := ⟨_, Lib.hid rfl⟩
  have HB1 : Hid (Below W.heap.size W W1) := Lib.hid (by rw [HW1.out]; exact ((Below.refl _ _).alloc (Nat.le_refl _) _).alloc (by rw [size_alloc]; omega) _)
  have HT1 : Hid (Whole W1 A 71 #[.int .i64 0, .string ⟨#[]⟩, .int .i64 0] ∧ Whole W1 B 71 #[.int .i64 0, .string ⟨#[]⟩, .int .i64 p]) := Lib.hid (by
    rw [HW1.out, HAq.out, HBq.out]
    refine ⟨(Whole.new W _ _).alloc _, ?_⟩
    have := Whole.new (W.alloc (.cells #[.int .i64 0, .string ⟨#[]⟩, .int .i64 0] 71)) 71 #[.int .i64 0, .string ⟨#[]⟩, .int .i64 p]
    rwa [size_alloc] at this)
  have HR1 : Hid (Rd W1 b T p) := Lib.hid (H0.out.below HB1.out)
  have hAb : b < A := by rw [HAq.out]; exact hlt
  have hABlt : A < B := by rw [HAq.out, HBq.out]; omega
  rw [← HW1.out, ← HBq.out, ← HAq.out]
  clear HW1 k1
  have k0' := HR1.out.text
  have k1' := HR1.out.pos
  have hltX := HR1.out.lt
  have g0' : ∀ Y : Grown W1, Y.w.cell? ⟨b, 0, none⟩ = some (.string T) := fun Y => by rw [Y.cell hltX]; exact k0'
  have g1' : ∀ Y : Grown W1, Y.w.cell? ⟨b, 1, none⟩ = some (.int .i64 p) := fun Y => by rw [Y.cell hltX]; exact k1'
  have hb0 : (0 : Int) ≤ p := by omega
  have hb1 : (p : Int) < (T.size : Int) := by omega
  refine wp_region_grown (by kernel_rfl) (by kernel_rfl) ?_
  repeat (go_big_quiet_step (fail))
  refine wpQuiet_nil ?_
  rintro _ ⟨Y, rfl⟩
  obtain ⟨w2, HY'⟩ : ∃ x, Hid (x = Y.w) := ⟨_, Lib.hid rfl⟩
  have HR2 : Hid (Rd w2 b T p) := Lib.hid (by rw [HY'.out]; exact HR1.out.below Y.below)
  have HM2 : Hid (Mv b W w2) := Lib.hid (by rw [HY'.out]; exact (Only.of_below _ HB1.out).trans (Only.of_below _ Y.below))
  have HT2 : Hid (Whole w2 A 71 #[.int .i64 0, .string ⟨#[]⟩, .int .i64 0] ∧ Whole w2 B 71 #[.int .i64 0, .string ⟨#[]⟩, .int .i64 p]) := Lib.hid (by
    rw [HY'.out]; exact ⟨(Y.below.block _ HT1.out.1.lt).trans HT1.out.1, (Y.below.block _ HT1.out.2.lt).trans HT1.out.2⟩)
  rw [← HY'.out]
  clear k0' k1' g0' g1' hltX
  obtain ⟨c, Hc⟩ : ∃ c, Hid (c = T[p]) := ⟨_, Lib.hid rfl⟩
  rw [← Hc.out]
  have hTc : T[p] = c := Hc.out.symm
  have kc := HR2.out.cls c
  have hc1 : (c.toNat : Int) < 256 := by have := c.toNat_lt; omega
  have hc0 : (0 : Int) ≤ c.toNat := by omega
  have c1 := Lex.cls_is c
  have nbA : ¬ b = A := by omega
  have nbB : ¬ b = B := by omega
  have nAB : ¬ A = B := by omega
  have e34 := Lex.byte_eq c 34
  obtain ⟨bl, hbl⟩ : ∃ v, Lex.isLetter c = v := ⟨_, rfl⟩
  have e1 := c1.1
  rw [hbl] at e1
  cases bl with
  | true =>
    clear c1 e34
    go_wp2_with fail
    refine (word_any 7 (by decide) b T p (by omega) (by omega) w2 HR2.out).mono ?_
    rintro e w3 ⟨n, hn, rfl, hR3, hM3⟩
    obtain ⟨S, HS⟩ : ∃ x, Hid (x = T.extract p n) := ⟨_, Lib.hid rfl⟩
    have HR3 := Lib.hid hR3
    have HM3 := Lib.hid (HM2.out.trans hM3)
    obtain ⟨ta, tb⟩ := And.intro (hM3.whole HT2.out.1 (by omega)) (hM3.whole HT2.out.2 (by omega))
    have Hn := Lib.hid hn
    rw [← HS.out]
    have a0 := ta.cell 0
    have a1 := ta.cell 1
    have a2 := ta.cell 2
    have b0 := tb.cell 0
    have b1 := tb.cell 1
    have b2 := tb.cell 2
    have fa0 := ta.frozen 0
    have fa1 := ta.frozen 1
    have fa2 := ta.frozen 2
    have fb0 := tb.frozen 0
    have fb1 := tb.frozen 1
    simp only [List.getElem?_toArray, List.getElem?_cons_zero, List.getElem?_cons_succ] at a0 a1 a2 b0 b1 b2
    have HTa := Lib.hid ta
    clear ta tb hR3 hM3 hn
    have HX := Lib.hid (text_facts (B := B) (.int .i64 1) (.string S) HTa.out HR3.out HM3.out nbB nAB (by rw [HBq.out]; omega))
    have HF := Lib.hid (fin_facts (.int .i64 1) (.string S) (.int .i64 p) rfl HX.out.1 HX.out.2.1 HX.out.2.2 nbA (by rw [HAq.out]; exact Nat.le_refl _))
    have hw7 : Lex.want 7 = Lex.isWord := funext Lex.want_word
    have hn' := Hn.out
    rw [hw7] at hn'
    obtain ⟨q1, q2, q3, q4⟩ := Lex.word_parts (P := Lex.isWord) hp (by rw [hTc]; unfold Lex.isWord; rw [hbl]; rfl) hn'
    rw [hTc] at q4
    have hSz : S.size = (c :: (T.data.toList.drop (p + 1)).takeWhile Lex.isWord).length := by rw [HS.out, q4, Lex.size_list]
    have HQ := Lib.hid (And.intro q3 (And.intro q4 (And.intro hSz (Lex.tok_letter (r := T.data.toList.drop (p + 1)) hbl))))
    clear q3 q4 hSz hn' hw7
    by_cases h24 : 24 < S.size
    · have hs : decide (24 < (S.size : Int)) = true := decide_eq_true (by omega)
      have hs' : decide (24 < S.size) = true := decide_eq_true h24
      go_wp2_with fail
      refine bodyPost_ret (results_token rfl _ _ A (.int .i64 7) _ _ _ rfl rfl HF.out.1) rfl ?_
      exact Or.inr ⟨7, _, _, n, by rw [hTc, HQ.out.2.2.2, if_pos (by rw [← HQ.out.2.2.1]; exact h24)], by decide, rfl, HF.out.2.1, HF.out.2.2⟩
    · have hs : decide (24 < (S.size : Int)) = false := decide_eq_false (by omega)
      have hs' : decide (24 < S.size) = false := decide_eq_false h24
      go_wp2_with fail
      refine bodyPost_ret (results_token rfl _ _ A (.int .i64 0) _ _ _ rfl rfl HF.out.1) rfl ?_
      exact Or.inl ⟨1, _, n, by rw [hTc, HQ.out.2.2.2, if_neg (by rw [← HQ.out.2.2.1]; exact h24), HQ.out.1], q1, q2, by rw [HS.out, HQ.out.2.1]; rfl, HF.out.2.1, HF.out.2.2⟩
  | false =>
    have HL := Lib.hid hbl
    clear hbl
    have e2 := c1.2.1
    have e16 := c1.2.2
    clear c1
    obtain ⟨bd, hbd⟩ : ∃ v, Lex.isDigit c = v := ⟨_, rfl⟩
    rw [hbd] at e2
    cases bd with
    | true =>
      clear e16 e34
      go_wp2_with fail
      refine (word_any 2 (by decide) b T p (by omega) (by omega) w2 HR2.out).mono ?_
      rintro e w3 ⟨n, hn, rfl, hR3, hM3⟩
      obtain ⟨S, HS⟩ : ∃ x, Hid (x = T.extract p n) := ⟨_, Lib.hid rfl⟩
      have HR3 := Lib.hid hR3
      have HM3 := Lib.hid (HM2.out.trans hM3)
      obtain ⟨ta, tb⟩ := And.intro (hM3.whole HT2.out.1 (by omega)) (hM3.whole HT2.out.2 (by omega))
      rw [← HS.out]
      have hw2 : Lex.want 2 = Lex.isDigit := funext Lex.want_digit
      rw [hw2] at hn
      obtain ⟨q1, q2, q3, q4⟩ := Lex.word_parts (P := Lex.isDigit) hp (by rw [hTc]; exact hbd) hn
      rw [hTc] at q4
      have hSz : S.size = (c :: (T.data.toList.drop (p + 1)).takeWhile Lex.isDigit).length := by rw [HS.out, q4, Lex.size_list]
      have HQ := Lib.hid (And.intro q3 (And.intro q4 (And.intro hSz (Lex.tok_digit (r := T.data.toList.drop (p + 1)) HL.out hbd))))
      have HBd := Lib.hid hbd
      clear q3 q4 hSz hn hw2 hbd
      have b0 := tb.cell 0
      have b1 := tb.cell 1
      have b2 := tb.cell 2
      have fb0 := tb.frozen 0
      have fb1 := tb.frozen 1
      simp only [List.getElem?_toArray, List.getElem?_cons_zero, List.getElem?_cons_succ] at b0 b1 b2
      have HTa := Lib.hid ta
      have HTb := Lib.hid tb
      clear ta tb hR3 hM3
      have HX := Lib.hid (text_facts (B := B) (.int .i64 2) (.string S) HTa.out HR3.out HM3.out nbB nAB (by rw [HBq.out]; omega))
      by_cases h7 : 7 < S.size
      · have hs : decide (7 < (S.size : Int)) = true := decide_eq_true (by omega)
        have hs' : decide (7 < S.size) = true := decide_eq_true h7
        have a0 := HTa.out.cell 0
        have a1 := HTa.out.cell 1
        have a2 := HTa.out.cell 2
        have fa0 := HTa.out.frozen 0
        have fa1 := HTa.out.frozen 1
        have fa2 := HTa.out.frozen 2
        simp only [List.getElem?_toArray, List.getElem?_cons_zero, List.getElem?_cons_succ] at a0 a1 a2
        have HF := Lib.hid (fin_facts (.int .i64 2) (.string S) (.int .i64 p) rfl HX.out.1 HX.out.2.1 HX.out.2.2 nbA (by rw [HAq.out]; exact Nat.le_refl _))
        go_wp2_with fail
        refine bodyPost_ret (results_token rfl _ _ A (.int .i64 11) _ _ _ rfl rfl HF.out.1) rfl ?_
        exact Or.inr ⟨11, _, _, n, by rw [hTc, HQ.out.2.2.2, if_pos (Or.inl (by rw [← HQ.out.2.2.1]; exact h7))], by decide, rfl, HF.out.2.1, HF.out.2.2⟩
      · have hs : decide (7 < (S.size : Int)) = false := decide_eq_false (by omega)
        have hs' : decide (7 < S.size) = false := decide_eq_false h7
        go_wp2_with fail
        obtain ⟨X, HXq⟩ : ∃ x, Hid (x = (w3.setCell ⟨B, 0, none⟩ (.int .i64 2)).setCell ⟨B, 1, none⟩ (.string S)) := ⟨_, Lib.hid rfl⟩
        have HXB : Hid (Whole X B 71 #[.int .i64 2, .string S, .int .i64 p]) := Lib.hid (by rw [HXq.out]; exact (HTb.out.set 0 _).set 1 _)
        rw [← HXq.out] at HX ⊢
        refine (word_any 7 (by decide) b T n q2 (by omega) X HX.out.2.1).mono ?_
        rintro e w4 ⟨m, hm, rfl, hR4, hM4⟩
        obtain ⟨S2, HS2⟩ : ∃ x, Hid (x = T.extract n m) := ⟨_, Lib.hid rfl⟩
        rw [show Lex.want 7 = Lex.isWord from funext Lex.want_word] at hm
        have HW := Lib.hid (Lex.word_none q2 hm)
        have HMT : Hid (n ≤ m ∧ m ≤ T.size) := Lib.hid (by
          have h1 := (List.takeWhile_sublist Lex.isWord (l := T.data.toList.drop n)).length_le
          rw [List.length_drop] at h1
          have h2 : T.data.toList.length = T.size := rfl
          omega)
        rw [← HS2.out] at HW ⊢
        have HM4 := Lib.hid (HX.out.2.2.trans hM4)
        have HR4 := Lib.hid hR4
        obtain ⟨ta, tb⟩ := And.intro (hM4.whole HX.out.1 (by omega)) (hM4.whole HXB.out (by omega))
        have HTa4 := Lib.hid ta
        have a0 := ta.cell 0
        have a1 := ta.cell 1
        have a2 := ta.cell 2
        have c0 := tb.cell 0
        have c1 := tb.cell 1
        have c2 := tb.cell 2
        have fa0 := ta.frozen 0
        have fa1 := ta.frozen 1
        have fa2 := ta.frozen 2
        simp only [List.getElem?_toArray, List.getElem?_cons_zero, List.getElem?_cons_succ] at a0 a1 a2 c0 c1 c2
        have HF := Lib.hid (fin_facts (.int .i64 2) (.string S) (.int .i64 p) rfl HTa4.out HR4.out HM4.out nbA (by rw [HAq.out]; exact Nat.le_refl _))
        clear ta tb hR4 hM4 hm b0 b1 b2 fb0 fb1
        by_cases h0 : S2 = ⟨#[]⟩
        · have hw := HW.out.1 h0
          have Hw := Lib.hid hw
          clear hw
          subst h0
          go_wp2_with fail
          refine bodyPost_ret (results_token rfl _ _ A (.int .i64 0) _ _ _ rfl rfl HF.out.1) rfl ?_
          have hmn : m = n := by
            rcases Nat.lt_or_ge n m with h | h
            · exfalso
              have h1 : (T.extract n m).size = 0 := by rw [← HS2.out]; rfl
              rw [Lex.extract_list, Lex.size_list, List.length_take, List.length_drop] at h1
              have h3 : T.data.toList.length = T.size := rfl
              have := HMT.out
              omega
            · exact Nat.le_antisymm h (by have := HMT.out; omega)
          exact Or.inl ⟨2, _, n, by rw [hTc, HQ.out.2.2.2, if_neg (by rw [not_or, ← HQ.out.1, Hw.out]; exact ⟨by rw [← HQ.out.2.2.1]; exact h7, by decide⟩), HQ.out.1], q1, q2, by rw [HS.out, HQ.out.2.1]; rfl, hmn ▸ HF.out.2.1, HF.out.2.2⟩
        · have h0n : (S2.toList == (⟨#[]⟩ : ByteArray).toList) = false := (Lib.bytes_beq_false_iff _ _).2 h0
          have hie : S2.toList.isEmpty = false := by
            cases hx : S2.toList with
            | nil =>
              have e : S2.data.toList = [] := by rw [← Lib.toList_data, hx]
              exact absurd (show S2 = ⟨#[]⟩ by cases S2; simpa using e) h0
            | cons a l => rfl
          have Hw : Hid (Lex.wordAt (T.data.toList.drop n) = true) := Lib.hid (by
            cases hx : Lex.wordAt (T.data.toList.drop n) with
            | true => rfl
            | false => exact absurd (HW.out.2 hx) h0)
          go_wp2_with fail
          refine bodyPost_ret (results_token rfl _ _ A (.int .i64 11) _ _ _ rfl rfl HF.out.1) rfl ?_
          exact Or.inr ⟨11, _, _, m, by rw [hTc, HQ.out.2.2.2, if_pos (Or.inr (by rw [← HQ.out.1]; exact Hw.out))], by decide, rfl, HF.out.2.1, HF.out.2.2⟩
    | false =>
      have HDg := Lib.hid hbd
      clear hbd
      by_cases h34 : c.toNat = 34
      · rw [decide_eq_true h34] at e34
        have H34 := Lib.hid h34
        clear h34 e16
        go_wp2_with fail
        refine (quoted_any b T p hp hT w2 HR2.out).mono ?_
        rintro e w3 hq
        rcases hq with ⟨hs, rfl, hR3, hM3⟩ | ⟨t, n, hs, hn1, hn2, rfl, hR3, hM3⟩
        · have HR3 := Lib.hid hR3
          have HM3 := Lib.hid (HM2.out.trans hM3)
          obtain ⟨ta, tb⟩ := And.intro (hM3.whole HT2.out.1 (by omega)) (hM3.whole HT2.out.2 (by omega))
          have Hs := Lib.hid hs
          clear hR3 hM3 hs
          have a0 := ta.cell 0
          have a1 := ta.cell 1
          have a2 := ta.cell 2
          have b0 := tb.cell 0
          have b1 := tb.cell 1
          have b2 := tb.cell 2
          have fa0 := ta.frozen 0
          have fa1 := ta.frozen 1
          have fa2 := ta.frozen 2
          have fb0 := tb.frozen 0
          have fb1 := tb.frozen 1
          simp only [List.getElem?_toArray, List.getElem?_cons_zero, List.getElem?_cons_succ] at a0 a1 a2 b0 b1 b2
          have HTa := Lib.hid ta
          clear ta tb
          have HF := Lib.hid (fin_facts (.int .i64 0) (.string ⟨#[]⟩) (.int .i64 p) rfl HTa.out HR3.out HM3.out nbA (by rw [HAq.out]; exact Nat.le_refl _))
          go_wp2_with fail
          refine bodyPost_ret (results_token rfl _ _ A (.int .i64 10) _ _ _ rfl rfl HF.out.1) rfl ?_
          exact Or.inr ⟨10, _, _, p, by rw [hTc, Lex.tok_quote HL.out HDg.out H34.out, Hs.out], by decide, rfl, HF.out.2.1, HF.out.2.2⟩
        · have HR3 := Lib.hid hR3
          have HM3 := Lib.hid (HM2.out.trans hM3)
          obtain ⟨ta, tb⟩ := And.intro (hM3.whole HT2.out.1 (by omega)) (hM3.whole HT2.out.2 (by omega))
          have Hs := Lib.hid hs
          clear hR3 hM3 hs
          have a0 := ta.cell 0
          have a1 := ta.cell 1
          have a2 := ta.cell 2
          have b0 := tb.cell 0
          have b1 := tb.cell 1
          have b2 := tb.cell 2
          have fa0 := ta.frozen 0
          have fa1 := ta.frozen 1
          have fa2 := ta.frozen 2
          have fb0 := tb.frozen 0
          have fb1 := tb.frozen 1
          simp only [List.getElem?_toArray, List.getElem?_cons_zero, List.getElem?_cons_succ] at a0 a1 a2 b0 b1 b2
          have HTa := Lib.hid ta
          clear ta tb
          have HX := Lib.hid (text_facts (B := B) (.int .i64 3) (.string ⟨t.toArray⟩) HTa.out HR3.out HM3.out nbB nAB (by rw [HBq.out]; omega))
          have HF := Lib.hid (fin_facts (.int .i64 3) (.string ⟨t.toArray⟩) (.int .i64 p) rfl HX.out.1 HX.out.2.1 HX.out.2.2 nbA (by rw [HAq.out]; exact Nat.le_refl _))
          go_wp2_with fail
          refine bodyPost_ret (results_token rfl _ _ A (.int .i64 0) _ _ _ rfl rfl HF.out.1) rfl ?_
          exact Or.inl ⟨3, t, n, by rw [hTc, Lex.tok_quote HL.out HDg.out H34.out, Hs.out], hn2, hn1, rfl, HF.out.2.1, HF.out.2.2⟩
      · rw [decide_eq_false h34] at e34
        have H34 := Lib.hid h34
        clear h34
        obtain ⟨bs, hbs⟩ : ∃ v, Lex.isSym c = v := ⟨_, rfl⟩
        rw [hbs] at e16
        have HSy := Lib.hid hbs
        clear hbs
        cases bs with
        | true =>
          obtain ⟨ta, tb⟩ := HT2.out
          have b0 := tb.cell 0
          have b1 := tb.cell 1
          have b2 := tb.cell 2
          have fb0 := tb.frozen 0
          have fb1 := tb.frozen 1
          have k0 := HR2.out.text
          have k1 := HR2.out.pos
          obtain ⟨P, HP⟩ : ∃ x, Hid (x = p + 1) := ⟨_, Lib.hid rfl⟩
          have hP : (p : Int) + 1 = (P : Int) := by rw [HP.out]; push_cast; rfl
          have hp9 : (P : Int) ≤ 140737488351233 := by have := HP.out; omega
          have hp8 : (P : Int) ≤ (T.size : Int) := by have := HP.out; omega
          have hp7 : (0 : Int) ≤ (P : Int) := by omega
          have hp6 : (p : Int) ≤ (P : Int) := by have := HP.out; omega
          simp only [List.getElem?_toArray, List.getElem?_cons_zero, List.getElem?_cons_succ] at b0 b1 b2
          go_wp2_with fail
          go_region
          have a0 := ta.cell 0
          have a1 := ta.cell 1
          have a2 := ta.cell 2
          have fa0 := ta.frozen 0
          have fa1 := ta.frozen 1
          have fa2 := ta.frozen 2
          have fr1 := HR2.out.frozen 1
          simp only [List.getElem?_toArray, List.getElem?_cons_zero, List.getElem?_cons_succ] at a0 a1 a2
          have nbA' : ¬ A = b := by omega
          have nbB' : ¬ B = b := by omega
          have nAB' : ¬ B = A := by omega
          have HX := Lib.hid (text_facts (B := B) (.int .i64 4) (.string (T.extract p P)) ta HR2.out HM2.out nbB nAB (by rw [HBq.out]; omega))
          have HX2 := Lib.hid (And.intro (Whole.far (p := ⟨b, 1, none⟩) HX.out.1 nbA' (.int .i64 P)) (And.intro (HX.out.2.1.set P) (HX.out.2.2.setCell (p := ⟨b, 1, none⟩) (Or.inl rfl) (.int .i64 P))))
          have HF := Lib.hid (fin_facts (.int .i64 4) (.string (T.extract p P)) (.int .i64 p) rfl HX2.out.1 HX2.out.2.1 HX2.out.2.2 nbA (by rw [HAq.out]; exact Nat.le_refl _))
          go_wp2_with fail
          refine bodyPost_ret (results_token rfl _ _ A (.int .i64 0) _ _ _ rfl rfl HF.out.1.drew) rfl ?_
          exact Or.inl ⟨4, [c], P, by rw [hTc, Lex.tok_rest HL.out HDg.out H34.out, HSy.out, HP.out]; rfl, by have := HP.out; omega, by omega, by rw [HP.out, Lex.extract_one hp, hTc]; rfl, HF.out.2.1.drew, HF.out.2.2.drew⟩
        | false =>
          obtain ⟨ta, tb⟩ := HT2.out
          have a0 := ta.cell 0
          have a1 := ta.cell 1
          have a2 := ta.cell 2
          have b0 := tb.cell 0
          have b1 := tb.cell 1
          have b2 := tb.cell 2
          have fa0 := ta.frozen 0
          have fa1 := ta.frozen 1
          have fa2 := ta.frozen 2
          have fb0 := tb.frozen 0
          have fb1 := tb.frozen 1
          simp only [List.getElem?_toArray, List.getElem?_cons_zero, List.getElem?_cons_succ] at a0 a1 a2 b0 b1 b2
          have HTa := Lib.hid ta
          clear ta tb
          have HF := Lib.hid (fin_facts (.int .i64 0) (.string ⟨#[]⟩) (.int .i64 p) rfl HTa.out HR2.out HM2.out nbA (by rw [HAq.out]; exact Nat.le_refl _))
          go_wp2_with fail
          refine bodyPost_ret (results_token rfl _ _ A (.int .i64 10) _ _ _ rfl rfl HF.out.1) rfl ?_
          exact Or.inr ⟨10, _, _, p, by rw [hTc, Lex.tok_rest HL.out HDg.out H34.out, HSy.out]; rfl, by decide, rfl, HF.out.2.1, HF.out.2.2⟩

end Go.Proofs.YtfkejnnbfneieaaGreatDoor
