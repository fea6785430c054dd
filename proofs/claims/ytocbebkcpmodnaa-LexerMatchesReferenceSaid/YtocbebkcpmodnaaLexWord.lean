/- The walk of the reader's method word. -/
import Derived.Test.YtocbebkcpmodnaaLexSkip
namespace Go.Proofs.Ytocbebkcpmodnaa
open Go.RowKit

/-- What a word takes: letters, digits and underlines, or digits alone. -/
def Lex.want (m : Nat) (c : UInt8) : Bool := Lex.clsN c &&& m != 0

theorem Lex.clsN_le (c : UInt8) : Lex.clsN c ≤ 16 := by
  have h := Lex.clsN_eq c
  unfold Lex.clsQ at h
  simp only [Bool.and_eq_true, decide_eq_true_eq] at h
  exact h.2
theorem Lex.bits_all : ((List.range 17).all fun a => (List.range 17).all fun m => (bits BinOp.and .i64 (a : Int) (m : Int) != 0) == (a &&& m != 0)) = true := by kernel_rfl
theorem Lex.bits_want {a m : Nat} (ha : a ≤ 16) (hm : m ≤ 16) : (bits BinOp.and .i64 (a : Int) (m : Int) != 0) = (a &&& m != 0) := by
  have := List.all_eq_true.1 (List.all_eq_true.1 Lex.bits_all a (List.mem_range.2 (by omega))) m (List.mem_range.2 (by omega))
  exact beq_iff_eq.1 this
theorem Lex.want_word (c : UInt8) : Lex.want 7 c = Lex.isWord c := by
  have h := Lex.clsN_eq c
  unfold Lex.clsQ at h
  simp only [Bool.and_eq_true, beq_iff_eq] at h
  exact h.1.1.2
theorem Lex.want_digit (c : UInt8) : Lex.want 2 c = Lex.isDigit c := by
  have h := Lex.clsN_eq c
  unfold Lex.clsQ at h
  simp only [Bool.and_eq_true, beq_iff_eq] at h
  exact h.1.2

set_option maxRecDepth 100000 in
set_option maxHeartbeats 2000000 in
theorem word1_any (c : UInt8) (m : Nat) (hm : m ≤ 16) (b br bc p : Nat) (T : ByteArray) (w : World) (h : Rd w b T p) (h1 : w.cell? ⟨br, 0, none⟩ = some (.pointer (some ⟨b, 0, none⟩))) (h2 : w.cell? ⟨bc, 0, none⟩ = some (.int .i64 m)) :
    Calls Try.prog 49 #[.int .u8 c.toNat, .pointer (some ⟨br, 0, none⟩), .pointer (some ⟨bc, 0, none⟩)] w fun e w' => e = .returned (.bool (Lex.want m c)) ∧ Below w.heap.size w w' := by
  go_enter Try.func49, Try.ntmps49
  have kc := h.cls c
  have hlt := h.lt
  have hl1 := lt_of_cell h1
  have hl2 := lt_of_cell h2
  have hc1 : (c.toNat : Int) < 256 := by have := c.toNat_lt; omega
  have hc0 : (0 : Int) ≤ c.toNat := by omega
  have g0 : ∀ X : Grown w, X.w.cell? ⟨br, 0, none⟩ = some (.pointer (some ⟨b, 0, none⟩)) := fun X => by rw [X.cell hl1]; exact h1
  have g1 : ∀ X : Grown w, X.w.cell? ⟨bc, 0, none⟩ = some (.int .i64 m) := fun X => by rw [X.cell hl2]; exact h2
  have g2 : ∀ X : Grown w, X.w.cell? ⟨b, 2 + c.toNat, none⟩ = some (.int .i64 (Lex.clsN c)) := fun X => by rw [X.cell hlt]; exact kc
  go_wp2_with fail
  refine wp_region_grown (by kernel_rfl) (by kernel_rfl) ?_
  repeat (go_big_quiet_step (fail))
  refine wpQuiet_nil ?_
  rintro _ ⟨X, rfl⟩
  go_wp2_with fail
  go_ret
  exact ⟨ret_bool (Lex.bits_want (Lex.clsN_le c) hm), X.below⟩

set_option maxRecDepth 100000 in
set_option maxHeartbeats 2000000 in
theorem word_any (m : Nat) (hm : m ≤ 16) (b : Nat) (T : ByteArray) (at_ : Nat) (hat : at_ ≤ T.size) (hT : T.size ≤ 140737488351232) (W : World) (h : Rd W b T at_) :
    Calls Try.prog 44 #[.pointer (some ⟨b, 0, none⟩), .int .i64 m] W fun e w' =>
      ∃ n, n = at_ + ((T.data.toList.drop at_).takeWhile (Lex.want m)).length ∧ e = .returned (.string (T.extract at_ n)) ∧ Rd w' b T n ∧ Mv b W w' := by
  go_enter Try.func44, Try.ntmps44
  have H0 := Lib.hid h
  have hlt := h.lt
  clear h
  go_wp2_with fail
  obtain ⟨W2, HW2⟩ : ∃ x, Hid (x = (W.alloc (.cells #[.pointer (some ⟨b, 0, none⟩)] 41)).alloc (.cells #[.int .i64 m] 3)) := ⟨_, Lib.hid rfl⟩
  have hB : Below W.heap.size W W2 := by rw [HW2.out]; exact ((Below.refl _ _).alloc (Nat.le_refl _) _).alloc (by rw [size_alloc]; omega) _
  have c1 : W2.cell? ⟨W.heap.size, 0, none⟩ = some (.pointer (some ⟨b, 0, none⟩)) := by rw [HW2.out]; simp [cell_alloc]
  have c2 : W2.cell? ⟨W.heap.size + 1, 0, none⟩ = some (.int .i64 m) := by rw [HW2.out]; simp [cell_alloc]
  rw [← HW2.out]
  refine (while_any _ _ (Lex.want m) b T at_ hat hT W2 (H0.out.below hB) call_word1 fun w hM q hR c => ?_).mono ?_
  · exact word1_any c m hm b W.heap.size (W.heap.size + 1) q T w hR (hM.cell c1 (by omega)) (hM.cell c2 (by omega))
  · rintro e w' ⟨n, hn, rfl, hR, hM⟩
    have HE := Lib.hid (And.intro hn (And.intro hR ((Only.of_below (fun x => x = b) hB).trans hM)))
    clear hn hR hM c1 c2
    go_wp2_with fail
    go_ret
    exact ⟨n, HE.out.1, rfl, HE.out.2.1, HE.out.2.2⟩

end Go.Proofs.Ytocbebkcpmodnaa
