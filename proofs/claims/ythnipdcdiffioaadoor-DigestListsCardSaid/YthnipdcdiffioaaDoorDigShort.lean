/- The statement on digests of short texts: its walk. -/
import Derived.Test.YthnipdcdiffioaaDoorDigHead
import Derived.Test.YthnipdcdiffioaaDoorDigMathC
namespace Go.Proofs.YthnipdcdiffioaaDoor
open Go.RowKit

theorem short_test (A B : ByteArray) (hA : A.size ≤ 7) (hB : B.size ≤ 7) : (((digestOf A.data.toList).toList == (digestOf B.data.toList).toList) == (A.toList == B.toList)) = true := by
  by_cases h : A = B
  · subst h
    rw [beq_self_eq_true, beq_self_eq_true]; rfl
  · rw [digestOf_bne (fun e => h (by
      have := Dig.sum_short (l := A.data.toList) (m := B.data.toList) hA hB e
      cases A; cases B; simpa using this)), (Lib.bytes_beq_false_iff _ _).2 h]; rfl
theorem cut_size (a : ByteArray) : (a.extract 0 (min (a.size : Int) 7).toNat).size ≤ 7 := by
  rw [ByteArray.size_extract]; omega

set_option maxHeartbeats 4000000 in
theorem lawShort_any (a : ByteArray) (_ha : a.size ≤ 140737488351232) (b : ByteArray) (_hb0 : b.size ≤ 140737488351232) (w : World) (ht : Tab w) :
    Calls Tryd.prog 5 #[.string a, .string b] w fun e w' => e = .returned (.bool true) ∧ Below w.heap.size w w' := by
  have Ha := Lib.hid (cut_size a)
  have Hb := Lib.hid (cut_size b)
  go_enter Tryd.func5, Tryd.ntmps5
  go_wp2_with fail
  refine (digHead_any _ ht).mono ?_
  rintro e v1 ⟨rfl, hb⟩
  go_wp2_with fail
  generalize a.extract 0 (min (a.size : Int) 7).toNat = A at Ha ⊢
  generalize b.extract 0 (min (b.size : Int) 7).toNat = B at Hb ⊢
  have Ht := Lib.hid (short_test A B Ha.out Hb.out)
  refine (sumD_any A (by have := Ha.out; omega) _).mono ?_
  rintro e v2 ⟨rfl, h⟩
  obtain ⟨DA, HA⟩ : ∃ D, Hid (D = digestOf A.data.toList) := ⟨_, Lib.hid rfl⟩
  rw [← HA.out]
  replace hb := hb.trans (h.mono hb.size)
  clear h
  go_wp2_with fail
  refine (sumD_any B (by have := Hb.out; omega) _).mono ?_
  rintro e v3 ⟨rfl, h⟩
  obtain ⟨DB, HB⟩ : ∃ D, Hid (D = digestOf B.data.toList) := ⟨_, Lib.hid rfl⟩
  rw [← HB.out]
  have htest : ((DA.toList == DB.toList) == (A.toList == B.toList)) = true := by rw [HA.out, HB.out]; exact Ht.out
  replace hb := hb.trans (h.mono hb.size)
  clear h
  go_wp2
  go_ret
  exact ⟨rfl, hb⟩

end Go.Proofs.YthnipdcdiffioaaDoor
