/- The walks of the reader's methods while and word. -/
import Derived.Test.YtocbebkcpmodnaaLexRd
namespace Go.Proofs.Ytocbebkcpmodnaa
open Go.RowKit

namespace Lex
theorem take_len {p : UInt8 → Bool} {T : ByteArray} {a q : Nat} (h1 : a ≤ q) (h2 : q < T.size) (h : ∀ j, a ≤ j → (hj : j < q) → (hjT : j < T.size) → p T[j] = true) (hq : p T[q] = false) : q = a + ((T.data.toList.drop a).takeWhile p).length := by
  obtain ⟨n, rfl⟩ : ∃ n, q = a + n := ⟨q - a, by omega⟩
  have hlen : T.data.toList.length = T.size := rfl
  have e : T.data.toList.drop a = (T.data.toList.drop a).take n ++ T.data.toList.drop (a + n) := by
    rw [← List.drop_drop]; exact (List.take_append_drop n _).symm
  have := take_of p ((T.data.toList.drop a).take n) (T.data.toList.drop (a + n)) (fun c hc => by
    obtain ⟨i, hi, rfl⟩ := List.mem_iff_getElem.1 hc
    rw [List.length_take, List.length_drop] at hi
    rw [List.getElem_take, List.getElem_drop]
    exact h (a + i) (by omega) (by omega) (by omega)) (fun c hc => by
    rw [List.head?_drop, List.getElem?_eq_getElem (by omega)] at hc
    obtain rfl := Option.some.inj hc
    exact hq)
  rw [e, this.1, List.length_take, List.length_drop]
  omega
theorem take_all_len {p : UInt8 → Bool} {T : ByteArray} {a q : Nat} (h1 : a ≤ q) (h2 : q ≤ T.size) (h3 : ¬ q < T.size) (h : ∀ j, a ≤ j → (hj : j < q) → (hjT : j < T.size) → p T[j] = true) : q = a + ((T.data.toList.drop a).takeWhile p).length := by
  have hlen : T.data.toList.length = T.size := rfl
  have := take_of p (T.data.toList.drop a) [] (fun c hc => by
    obtain ⟨i, hi, rfl⟩ := List.mem_iff_getElem.1 hc
    rw [List.length_drop] at hi
    rw [List.getElem_drop]
    exact h (a + i) (by omega) (by omega) (by omega)) (fun c hc => by simp at hc)
  rw [List.append_nil] at this
  rw [this.1, List.length_drop]
  omega
end Lex
/-- Where a reader stands. -/
def posOf (w : World) (b : Nat) : Nat := match w.cell? ⟨b, 1, none⟩ with | some (.int _ x) => x.toNat | _ => 0
theorem Rd.posOf {w : World} {b p : Nat} {T : ByteArray} (h : Rd w b T p) : posOf w b = p := by
  unfold Go.Proofs.Ytocbebkcpmodnaa.posOf
  rw [h.pos]
  simp

set_option maxRecDepth 100000 in
set_option maxHeartbeats 2000000 in
theorem while_any (F : FuncId) (caps : Array Value) (p : UInt8 → Bool) (b : Nat) (T : ByteArray) (at_ : Nat) (hat : at_ ≤ T.size) (hT : T.size ≤ 140737488351232) (W : World) (h : Rd W b T at_)
    (hcall : ∀ args w, (callFunc F args).run Try.prog w = .ok (.enter F args) w) (HF : ∀ w, Mv b W w → ∀ q, Rd w b T q → ∀ c : UInt8, Calls Try.prog F (#[.int .u8 c.toNat] ++ caps) w fun e w' => e = .returned (.bool (p c)) ∧ Below w.heap.size w w') :
    Calls Try.prog 42 #[.pointer (some ⟨b, 0, none⟩), .func (.func F) #[] caps] W fun e w' =>
      ∃ n, n = at_ + ((T.data.toList.drop at_).takeWhile p).length ∧ e = .returned (.string (T.extract at_ n)) ∧ Rd w' b T n ∧ Mv b W w' := by
  go_enter Try.func42, Try.ntmps42
  have k0 := h.text
  have k1 := h.pos
  have hlt := h.lt
  have HFH := Lib.hid HF
  have HCl := Lib.hid hcall
  clear HF hcall
  have H0 := Lib.hid h
  clear h
  go_wp2_with fail
  clear k0 k1
  go_loopw [] (fun wr => ∃ q, at_ ≤ q ∧ q ≤ T.size ∧ Hid (Rd wr b T q ∧ Mv b W wr ∧ ∀ j, at_ ≤ j → (hj : j < q) → (hjT : j < T.size) → p T[j] = true)) (fun wr => T.size - posOf wr b)
  case atStart => exact ⟨at_, Nat.le_refl _, hat, Lib.hid ⟨H0.out, Only.refl _ _, fun j h1 h2 _ => by omega⟩⟩
  case round =>
    obtain ⟨q, hq1, hq2, HR⟩ := hrel
    have k0 := HR.out.1.text
    have k1 := HR.out.1.pos
    have hlt' := HR.out.1.lt
    have g0 : ∀ X : Grown wr, X.w.cell? ⟨b, 0, none⟩ = some (.string T) := fun X => by rw [X.cell hlt']; exact k0
    have g1 : ∀ X : Grown wr, X.w.cell? ⟨b, 1, none⟩ = some (.int .i64 q) := fun X => by rw [X.cell hlt']; exact k1
    by_cases hqT : q < T.size
    · have hd : decide ((q : Int) < (T.size : Int)) = true := decide_eq_true (by omega)
      have hb0 : (0 : Int) ≤ q := by omega
      have hb1 : (q : Int) < (T.size : Int) := by omega
      go_wp2_with fail
      refine wp_region_grown (by kernel_rfl) (by kernel_rfl) ?_
      have HFG : Hid (∀ (X : Grown wr) (c : UInt8), Calls Try.prog F (#[.int .u8 c.toNat] ++ caps) X.w fun e w' => e = .returned (.bool (p c)) ∧ Below X.w.heap.size X.w w') := Lib.hid fun X c => HFH.out X.w (HR.out.2.1.trans (Only.of_below _ X.below)) q (HR.out.1.below X.below) c
      iterate 21 (go_big_quiet_step (fail))
      go_big_quiet_step ((simp only [HCl.out]; exact ⟨trivial, grown_of (HFG.out _ _)⟩))
      repeat (go_big_quiet_step (fail))
      refine wpQuiet_nil ?_
      rintro _ ⟨X, rfl⟩
      obtain ⟨X', HX'⟩ : ∃ x, Hid (x = X.w) := ⟨_, Lib.hid rfl⟩
      have HRX : Hid (Rd X' b T q ∧ Mv b W X') := Lib.hid (by rw [HX'.out]; exact ⟨HR.out.1.below X.below, HR.out.2.1.trans (Only.of_below _ X.below)⟩)
      rw [← HX'.out]
      obtain ⟨pv, hpv⟩ : ∃ v, p T[q] = v := ⟨_, rfl⟩
      rw [hpv]
      cases pv with
      | true =>
        have k1' := HRX.out.1.pos
        have f1' := HRX.out.1.frozen 1
        have hq9 : (q : Int) + 1 ≤ 140737488351233 := by omega
        have HRn : Hid (Rd (X'.setCell ⟨b, 1, none⟩ (.int .i64 ((q : Int) + 1))) b T (q + 1) ∧ Mv b W (X'.setCell ⟨b, 1, none⟩ (.int .i64 ((q : Int) + 1))) ∧ ∀ j, at_ ≤ j → (hj : j < q + 1) → (hjT : j < T.size) → p T[j] = true) := Lib.hid ⟨by
          have := HRX.out.1.set (q + 1)
          push_cast at this
          exact this, HRX.out.2.setCell (Or.inl rfl) _, fun j h1 h2 h3 => by
            by_cases hjq : j = q
            · subst hjq; exact hpv
            · exact HR.out.2.2 j h1 (by omega) h3⟩
        go_wp2_with fail
        go_round
        case rel => exact ⟨q + 1, by omega, by omega, HRn⟩
        case measure => rw [HRn.out.1.posOf, HR.out.1.posOf]; omega
      | false =>
        have HN : Hid (q = at_ + ((T.data.toList.drop at_).takeWhile p).length) := Lib.hid (Lex.take_len hq1 hqT HR.out.2.2 hpv)
        have k0' := HRX.out.1.text
        have k1' := HRX.out.1.pos
        have hltX := HRX.out.1.lt
        have g0' : ∀ Y : Grown X', Y.w.cell? ⟨b, 0, none⟩ = some (.string T) := fun Y => by rw [Y.cell hltX]; exact k0'
        have g1' : ∀ Y : Grown X', Y.w.cell? ⟨b, 1, none⟩ = some (.int .i64 q) := fun Y => by rw [Y.cell hltX]; exact k1'
        have hs1 : (at_ : Int) ≤ q := by omega
        have hs2 : (q : Int) ≤ T.size := by omega
        have hs0 : (0 : Int) ≤ at_ := by omega
        go_wp2_with fail
        refine wp_region_grown (by kernel_rfl) (by kernel_rfl) ?_
        repeat (go_big_quiet_step (fail))
        refine wpQuiet_nil ?_
        rintro _ ⟨Y, rfl⟩
        have HY : Hid (Rd Y.w b T q ∧ Mv b W Y.w) := Lib.hid ⟨HRX.out.1.below Y.below, HRX.out.2.trans (Only.of_below _ Y.below)⟩
        go_wp2_with fail
        go_ret
        refine ⟨q, HN.out, rfl, HY.out.1, HY.out.2⟩
    · have hd : decide ((q : Int) < (T.size : Int)) = false := decide_eq_false (by omega)
      go_wp2_with fail
      refine wp_region_grown (by kernel_rfl) (by kernel_rfl) ?_
      repeat (go_big_quiet_step (fail))
      refine wpQuiet_nil ?_
      rintro _ ⟨X, rfl⟩
      obtain ⟨X', HX'⟩ : ∃ x, Hid (x = X.w) := ⟨_, Lib.hid rfl⟩
      have HRX : Hid (Rd X' b T q ∧ Mv b W X') := Lib.hid (by rw [HX'.out]; exact ⟨HR.out.1.below X.below, HR.out.2.1.trans (Only.of_below _ X.below)⟩)
      rw [← HX'.out]
      have HN : Hid (q = at_ + ((T.data.toList.drop at_).takeWhile p).length) := Lib.hid (Lex.take_all_len hq1 hq2 hqT HR.out.2.2)
      have k0' := HRX.out.1.text
      have k1' := HRX.out.1.pos
      have hltX := HRX.out.1.lt
      have g0' : ∀ Y : Grown X', Y.w.cell? ⟨b, 0, none⟩ = some (.string T) := fun Y => by rw [Y.cell hltX]; exact k0'
      have g1' : ∀ Y : Grown X', Y.w.cell? ⟨b, 1, none⟩ = some (.int .i64 q) := fun Y => by rw [Y.cell hltX]; exact k1'
      have hs1 : (at_ : Int) ≤ q := by omega
      have hs2 : (q : Int) ≤ T.size := by omega
      have hs0 : (0 : Int) ≤ at_ := by omega
      go_wp2_with fail
      refine wp_region_grown (by kernel_rfl) (by kernel_rfl) ?_
      repeat (go_big_quiet_step (fail))
      refine wpQuiet_nil ?_
      rintro _ ⟨Y, rfl⟩
      have HY : Hid (Rd Y.w b T q ∧ Mv b W Y.w) := Lib.hid ⟨HRX.out.1.below Y.below, HRX.out.2.trans (Only.of_below _ Y.below)⟩
      go_wp2_with fail
      go_ret
      refine ⟨q, HN.out, rfl, HY.out.1, HY.out.2⟩

end Go.Proofs.Ytocbebkcpmodnaa
