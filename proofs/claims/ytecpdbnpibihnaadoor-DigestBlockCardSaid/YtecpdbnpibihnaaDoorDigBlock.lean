/- The statement on digests of texts that differ in one block: its walk. -/
import Derived.Test.YtecpdbnpibihnaaDoorDigShort
import Derived.Test.YtecpdbnpibihnaaDoorDigMathD
import Derived.Test.YtecpdbnpibihnaaDoorGrown
namespace Go.Proofs.YtecpdbnpibihnaaDoor
open Go.RowKit

set_option maxHeartbeats 4000000 in
theorem lawBlock_skip (t a b : ByteArray) (p : Int) (hp0 : 0 ≤ p) (hp1 : p ≤ 255) (hs : 2000 < (t.size : Int) ∨ ¬ 2000 < (t.size : Int) ∧ (t.size : Int) < 8 * p) (_hts : t.size ≤ 140737488351232) (_ha : a.size ≤ 140737488351232) (_hb0 : b.size ≤ 140737488351232) (w : World) (ht : Tab w) :
    Calls Tryd.prog 6 #[.string t, .int .u8 p, .string a, .string b] w fun e w' => e = .returned (.bool true) ∧ Below w.heap.size w w' := by
  rcases hs with hs | ⟨hs, hs2⟩
  all_goals
    go_enter Tryd.func6, Tryd.ntmps6
    go_wp2_with fail
    refine (digHead_any _ ht).mono ?_
    rintro e v1 ⟨rfl, hb⟩
    go_wp2
    all_goals
      go_ret
      exact ⟨rfl, hb⟩

theorem block_test (pre A B rest : List UInt8) (X Y : ByteArray) (p : Nat) (hX : X.data.toList = A) (hY : Y.data.toList = B) (hp : pre.length = p * 8) (hA : A.length ≤ 8) (hAB : A.length = B.length) (hbig : (pre ++ A ++ rest).length < 18446744073709551616) :
    (((digestOf (pre ++ (A ++ rest))).toList == (digestOf (pre ++ (B ++ rest))).toList) == (X.toList == Y.toList)) = true := by
  subst hX hY
  by_cases h : X = Y
  · subst h
    rw [beq_self_eq_true, beq_self_eq_true]; rfl
  · rw [digestOf_bne (fun e => h (by
      rw [← List.append_assoc, ← List.append_assoc] at e
      have := Dig.sum_block pre X.data.toList Y.data.toList rest p hp hA hAB hbig e
      cases X; cases Y; simpa using this)), (Lib.bytes_beq_false_iff _ _).2 h]; rfl

set_option maxHeartbeats 4000000 in
theorem lawBlock_8 (t a b : ByteArray) (p : Int) (hp0 : 0 ≤ p) (hp1 : p ≤ 255) (hs : ¬ 2000 < (t.size : Int)) (hs2 : ¬ (t.size : Int) < 8 * p) (h1 : (8 : Int) < a.size) (h2 : (8 : Int) < b.size) (ha : a.size ≤ 140737488351232) (hb0 : b.size ≤ 140737488351232) (w : World) (ht : Tab w) :
    Calls Tryd.prog 6 #[.string t, .int .u8 p, .string a, .string b] w fun e w' => e = .returned (.bool true) ∧ Below w.heap.size w w' := by
  have h3 : (8 : Int) < (if (b.size : Int) < a.size then (b.size : Int) else a.size) := by split <;> omega
  have hw1 : IntKind.i64.wrap (8 * p) = 8 * p := by rw [IntKind.wrap_i64]; omega
  have hq0 : (0 : Int) ≤ 8 * p := by omega
  have hq1 : 8 * p ≤ (t.size : Int) := by omega
  go_enter Tryd.func6, Tryd.ntmps6
  go_wp2_with fail
  refine (digHead_any _ ht).mono ?_
  rintro e v1 ⟨rfl, hb⟩
  go_wp2_with fail
  refine wp_region_grown (by kernel_rfl) (by kernel_rfl) ?_
  repeat (go_big_quiet_step (exact grown_of (sumD_any _ (by simp only [ByteArray.size_append, ByteArray.size_extract]; omega) _)))
  refine wpQuiet_nil ?_
  rintro _ ⟨x, rfl⟩
  go_wp2
  go_ret
  refine ⟨ret_bool (block_test _ _ _ _ _ _ p.toNat (by simp) (by simp) ?_ ?_ ?_ ?_), hb.trans (x.below.mono hb.size)⟩
  all_goals (simp; try omega)

set_option maxHeartbeats 4000000 in
theorem lawBlock_a (t a b : ByteArray) (p : Int) (hp0 : 0 ≤ p) (hp1 : p ≤ 255) (hs : ¬ 2000 < (t.size : Int)) (hs2 : ¬ (t.size : Int) < 8 * p) (h1 : ¬ (8 : Int) < a.size) (h2 : ¬ (b.size : Int) < a.size) (ha : a.size ≤ 140737488351232) (_hb0 : b.size ≤ 140737488351232) (w : World) (ht : Tab w) :
    Calls Tryd.prog 6 #[.string t, .int .u8 p, .string a, .string b] w fun e w' => e = .returned (.bool true) ∧ Below w.heap.size w w' := by
  have hw1 : IntKind.i64.wrap (8 * p) = 8 * p := by rw [IntKind.wrap_i64]; omega
  have hq0 : (0 : Int) ≤ 8 * p := by omega
  have hq1 : 8 * p ≤ (t.size : Int) := by omega
  go_enter Tryd.func6, Tryd.ntmps6
  go_wp2_with fail
  refine (digHead_any _ ht).mono ?_
  rintro e v1 ⟨rfl, hb⟩
  go_wp2_with fail
  refine wp_region_grown (by kernel_rfl) (by kernel_rfl) ?_
  repeat (go_big_quiet_step (exact grown_of (sumD_any _ (by simp only [ByteArray.size_append, ByteArray.size_extract]; omega) _)))
  refine wpQuiet_nil ?_
  rintro _ ⟨x, rfl⟩
  go_wp2
  go_ret
  refine ⟨ret_bool (block_test _ _ _ _ _ _ p.toNat (by simp) (by simp) ?_ ?_ ?_ ?_), hb.trans (x.below.mono hb.size)⟩
  all_goals (simp; try omega)

set_option maxHeartbeats 4000000 in
theorem lawBlock_b (t a b : ByteArray) (p : Int) (hp0 : 0 ≤ p) (hp1 : p ≤ 255) (hs : ¬ 2000 < (t.size : Int)) (hs2 : ¬ (t.size : Int) < 8 * p) (h1 : ¬ (8 : Int) < b.size) (h2 : (b.size : Int) < a.size) (_ha : a.size ≤ 140737488351232) (hb0 : b.size ≤ 140737488351232) (w : World) (ht : Tab w) :
    Calls Tryd.prog 6 #[.string t, .int .u8 p, .string a, .string b] w fun e w' => e = .returned (.bool true) ∧ Below w.heap.size w w' := by
  have hw1 : IntKind.i64.wrap (8 * p) = 8 * p := by rw [IntKind.wrap_i64]; omega
  have hq0 : (0 : Int) ≤ 8 * p := by omega
  have hq1 : 8 * p ≤ (t.size : Int) := by omega
  go_enter Tryd.func6, Tryd.ntmps6
  go_wp2_with fail
  refine (digHead_any _ ht).mono ?_
  rintro e v1 ⟨rfl, hb⟩
  go_wp2_with fail
  refine wp_region_grown (by kernel_rfl) (by kernel_rfl) ?_
  repeat (go_big_quiet_step (exact grown_of (sumD_any _ (by simp only [ByteArray.size_append, ByteArray.size_extract]; omega) _)))
  refine wpQuiet_nil ?_
  rintro _ ⟨x, rfl⟩
  go_wp2
  go_ret
  refine ⟨ret_bool (block_test _ _ _ _ _ _ p.toNat (by simp) (by simp) ?_ ?_ ?_ ?_), hb.trans (x.below.mono hb.size)⟩
  all_goals (simp; try omega)

theorem lawBlock_any (t : ByteArray) (hts : t.size ≤ 140737488351232) (p : Int) (hp0 : 0 ≤ p) (hp1 : p ≤ 255) (a : ByteArray) (ha : a.size ≤ 140737488351232) (b : ByteArray) (hb0 : b.size ≤ 140737488351232) (w : World) (ht : Tab w) :
    Calls Tryd.prog 6 #[.string t, .int .u8 p, .string a, .string b] w fun e w' => e = .returned (.bool true) ∧ Below w.heap.size w w' := by
  by_cases hs : 2000 < (t.size : Int)
  · exact lawBlock_skip t a b p hp0 hp1 (Or.inl hs) hts ha hb0 w ht
  · by_cases hs2 : (t.size : Int) < 8 * p
    · exact lawBlock_skip t a b p hp0 hp1 (Or.inr ⟨hs, hs2⟩) hts ha hb0 w ht
    · by_cases h2 : (b.size : Int) < a.size
      · by_cases h1 : (8 : Int) < b.size
        · exact lawBlock_8 t a b p hp0 hp1 hs hs2 (by omega) h1 ha hb0 w ht
        · exact lawBlock_b t a b p hp0 hp1 hs hs2 h1 h2 ha hb0 w ht
      · by_cases h1 : (8 : Int) < a.size
        · exact lawBlock_8 t a b p hp0 hp1 hs hs2 h1 (by omega) ha hb0 w ht
        · exact lawBlock_a t a b p hp0 hp1 hs hs2 h1 h2 ha hb0 w ht

end Go.Proofs.YtecpdbnpibihnaaDoor
