/- The walks of digests of lists, and of the statements' fixed examples. -/
import Derived.Test.YthnipdcdiffioaaDoorJoined
import Derived.Lib.SlicesS
namespace Go.Proofs.YthnipdcdiffioaaDoor
open Go.RowKit

set_option maxHeartbeats 1000000 in
theorem text_none (ao : Option Addr) (cap : Nat) (w : World) :
    Calls Tryd.prog 40 #[.slice ao 0 cap] w fun e w' => e = .returned (.string ⟨#[]⟩) ∧ Below w.heap.size w w' := by
  go_enter Tryd.func40, Tryd.ntmps40
  go_wp2
  refine wp_loop_rounds 1 ?_
  rw [rounds_succ]
  go_wp2_with fail
  refine (_root_.Go.Proofs.Tryd.Builder_String_any w.heap.size w.heap.size [] _ (Lib.fresh_isBuilder _ _ w) (by simp)).mono ?_
  rintro e w1 ⟨rfl, hb1⟩
  go_wp2
  go_ret
  exact ⟨rfl, ((Below.refl _ _).alloc (Nat.le_refl _) _).trans hb1⟩

/-- The digest of a text, as a text. -/
def digestOf (l : List UInt8) : ByteArray := ⟨(Dig.hex (Dig.sum l)).toArray⟩

theorem sum_lt (l : List UInt8) : Dig.sum l < 18446744073709551616 := Dig.mixN_lt _
theorem digestOf_inj {l m : List UInt8} (h : digestOf l = digestOf m) : Dig.sum l = Dig.sum m := by
  unfold digestOf at h
  injection h with h
  injection h with h
  exact Dig.hex_inj (sum_lt _) (sum_lt _) h
theorem digestOf_beq {l m : List UInt8} (h : l = m) : ((digestOf l).toList == (digestOf m).toList) = true := by rw [h]; exact beq_self_eq_true _
theorem digestOf_bne {l m : List UInt8} (h : Dig.sum l ≠ Dig.sum m) : ((digestOf l).toList == (digestOf m).toList) = false :=
  (Lib.bytes_beq_false_iff _ _).2 fun e => h (digestOf_inj e)
theorem digestOf_size (l : List UInt8) : (digestOf l).size = 16 := by
  show (Dig.hex (Dig.sum l)).toArray.size = 16
  rw [List.size_toArray, Dig.hex_length]
theorem digestOf_data (l : List UInt8) : (digestOf l).data.toList = Dig.hex (Dig.sum l) := rfl
theorem sumD_any (s : ByteArray) (hs : s.size ≤ 140737488351232) (w : World) :
    Calls Tryd.prog 15 #[.string s] w fun e w' => e = .returned (.string (digestOf s.data.toList)) ∧ Below w.heap.size w w' := sum_any s hs w

set_option maxHeartbeats 1000000 in
theorem list_some (ss : List ByteArray) (bk off cap : Nat) (w : World) (ht : Tab w) (hbk : bk < w.heap.size) (hn : ss.length ≤ 1000000000)
    (hsum : (joinText (ss.map fun s => s.data.toList)).length ≤ 140737488351232)
    (hc : ∀ k, (h : k < ss.length) → w.cell? ⟨bk, off + k, none⟩ = some (.string ss[k])) (hone : ∀ s ∈ ss, s.size ≤ 140737488351232) :
    Calls Tryd.prog 17 #[.slice (some ⟨bk, off, none⟩) ss.length cap] w
      fun e w' => e = .returned (.string (digestOf (joinText (ss.map fun s => s.data.toList)))) ∧ Below w.heap.size w w' := by
  have Hc := Lib.hid hc
  have Hone := Lib.hid hone
  have Htx := Lib.hid (text_some ss bk off cap w ht hbk hn (by omega) hc hone)
  obtain ⟨t, Ht⟩ : ∃ t, Hid (t = joinText (ss.map fun s => s.data.toList)) := ⟨_, Lib.hid rfl⟩
  rw [← Ht.out] at hsum ⊢
  have Hsum := Lib.hid hsum
  clear hc hone hsum Hc Hone
  have Htx2 : Calls Tryd.prog 40 #[.slice (some ⟨bk, off, none⟩) ss.length cap] w fun e w' => e = .returned (.string ⟨t.toArray⟩) ∧ Below w.heap.size w w' := by rw [Ht.out]; exact Htx.out
  clear Htx
  have Htx := Lib.hid Htx2
  clear Htx2
  go_enter Tryd.func17, Tryd.ntmps17
  go_wp2_with fail
  refine Htx.out.mono ?_
  rintro e w1 ⟨rfl, hb1⟩
  go_wp2_with fail
  refine (sumD_any ⟨t.toArray⟩ (by show t.toArray.size ≤ _; simpa using Hsum.out) w1).mono ?_
  rintro e w2 ⟨rfl, hb2⟩
  go_wp2
  go_ret
  exact ⟨rfl, hb1.trans (hb2.mono hb1.size)⟩

set_option maxHeartbeats 4000000 in
theorem digHead_any (w : World) (ht : Tab w) :
    Calls Tryd.prog 13 #[] w fun e w' => e = .returned (.bool true) ∧ Below w.heap.size w w' := by
  have e1 : Dig.isB [48, 49, 50, 51, 52, 53, 54, 55, 56, 57, 97, 98, 99, 100, 101, 102] = true := by decide
  have e2 : Dig.isB [48, 49, 50, 51, 52, 53, 54, 55, 56, 57, 97, 98, 99, 100, 101, 70] = false := by decide
  have e3 : Dig.isB [] = false := by decide
  obtain ⟨D0, H0⟩ : ∃ D, Hid (D = digestOf []) := ⟨_, Lib.hid rfl⟩
  obtain ⟨D1, H1⟩ : ∃ D, Hid (D = digestOf [0]) := ⟨_, Lib.hid rfl⟩
  obtain ⟨D2, H2⟩ : ∃ D, Hid (D = digestOf [1]) := ⟨_, Lib.hid rfl⟩
  obtain ⟨D3, H3⟩ : ∃ D, Hid (D = digestOf [49, 58, 97, 50, 58, 98, 99]) := ⟨_, Lib.hid rfl⟩
  have e5 : (D0.toList == D1.toList) = false := by rw [H0.out, H1.out]; exact digestOf_bne (by decide +kernel)
  have e6 : (D2.toList == D0.toList) = false := by rw [H2.out, H0.out]; exact digestOf_bne (by decide +kernel)
  have e7 : (D0.toList != D1.toList) = true := by unfold bne; rw [e5]; rfl
  have e8 : (D2.toList != D0.toList) = true := by unfold bne; rw [e6]; rfl
  have e4 : joinText ([⟨#[97]⟩, ⟨#[98, 99]⟩].map fun s : ByteArray => s.data.toList) = [49, 58, 97, 50, 58, 98, 99] := by
    have d1 : Lib.decDigits 1 = [49] := by unfold Lib.decDigits; rfl
    have d2 : Lib.decDigits 2 = [50] := by unfold Lib.decDigits; rfl
    simp [joinText, d1, d2]
  go_enter Tryd.func13, Tryd.ntmps13
  go_wp2_with fail
  refine (is_any _ (by decide) _).mono ?_
  rintro e _ ⟨rfl, rfl⟩
  go_wp2_with fail
  refine (is_any _ (by decide) _).mono ?_
  rintro e _ ⟨rfl, rfl⟩
  go_wp2_with fail
  refine (is_any _ (by decide) _).mono ?_
  rintro e _ ⟨rfl, rfl⟩
  go_wp2_with fail
  refine (list_some [⟨#[97]⟩, ⟨#[98, 99]⟩] w.heap.size 0 2 _ (ht.below ((Below.refl _ _).alloc (Nat.le_refl _) _)) (by simp) (by simp) (by rw [e4]; simp) ?_ ?_).mono ?_
  · intro k hk
    have hc : k = 0 ∨ k = 1 := by simp at hk; omega
    rcases hc with rfl | rfl <;> simp [cell_alloc]
  · intro s hs
    simp at hs
    rcases hs with rfl | rfl <;> decide
  rintro e v1 ⟨rfl, hb⟩
  rw [e4, ← H3.out]
  go_wp2_with fail
  refine (sumD_any _ (by decide) _).mono ?_
  rintro e v2 ⟨rfl, h⟩
  rw [← H3.out]
  replace hb := hb.trans (h.mono hb.size)
  clear h
  go_wp2_with fail
  refine (sumD_any _ (by decide) _).mono ?_
  rintro e v3 ⟨rfl, h⟩
  rw [← H0.out]
  replace hb := hb.trans (h.mono hb.size)
  clear h
  go_wp2_with fail
  refine (sumD_any _ (by decide) _).mono ?_
  rintro e v4 ⟨rfl, h⟩
  rw [← H1.out]
  replace hb := hb.trans (h.mono hb.size)
  clear h
  go_wp2_with fail
  refine (sumD_any _ (by decide) _).mono ?_
  rintro e v5 ⟨rfl, h⟩
  rw [← H2.out]
  replace hb := hb.trans (h.mono hb.size)
  clear h
  go_wp2_with fail
  refine (sumD_any _ (by decide) _).mono ?_
  rintro e v6 ⟨rfl, h⟩
  rw [← H0.out]
  replace hb := hb.trans (h.mono hb.size)
  clear h
  go_wp2
  go_ret
  exact ⟨rfl, ((Below.refl _ _).alloc (Nat.le_refl _) _).trans (hb.mono (by rw [size_alloc]; omega))⟩

end Go.Proofs.YthnipdcdiffioaaDoor
