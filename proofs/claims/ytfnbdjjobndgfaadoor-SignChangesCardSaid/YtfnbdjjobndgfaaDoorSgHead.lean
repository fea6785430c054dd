/- The walks of digests of lists, and of the statements' fixed examples. -/
import Derived.Test.YtfnbdjjobndgfaaDoorJoined
import Derived.Lib.SlicesS
namespace Go.Proofs.YtfnbdjjobndgfaaDoor
open Go.RowKit

set_option maxHeartbeats 1000000 in
theorem text_none (ao : Option Addr) (cap : Nat) (w : World) :
    Calls Tryd.prog 62 #[.slice ao 0 cap] w fun e w' => e = .returned (.string ⟨#[]⟩) ∧ Below w.heap.size w w' := by
  go_enter Tryd.func62, Tryd.ntmps62
  go_wp2
  refine wp_loop_rounds 1 ?_
  rw [rounds_succ]
  go_wp2_with fail
  refine (_root_.Go.Proofs.Tryd.Builder_String_any w.heap.size w.heap.size [] _ (Lib.fresh_isBuilder _ _ w) (by simp)).mono ?_
  rintro e w1 ⟨rfl, hb1⟩
  go_wp2
  go_ret
  exact ⟨rfl, ((Below.refl _ _).alloc (Nat.le_refl _) _).trans hb1⟩

/-- The digest of a text, as a text. -/
def digestOf (l : List UInt8) : ByteArray := ⟨(Dig.hex (Dig.sum l)).toArray⟩

theorem sum_lt (l : List UInt8) : Dig.sum l < 18446744073709551616 := Dig.mixN_lt _
theorem digestOf_inj {l m : List UInt8} (h : digestOf l = digestOf m) : Dig.sum l = Dig.sum m := by
  unfold digestOf at h
  injection h with h
  injection h with h
  exact Dig.hex_inj (sum_lt _) (sum_lt _) h
theorem digestOf_beq {l m : List UInt8} (h : l = m) : ((digestOf l).toList == (digestOf m).toList) = true := by rw [h]; exact beq_self_eq_true _
theorem digestOf_bne {l m : List UInt8} (h : Dig.sum l ≠ Dig.sum m) : ((digestOf l).toList == (digestOf m).toList) = false :=
  (Lib.bytes_beq_false_iff _ _).2 fun e => h (digestOf_inj e)
theorem digestOf_size (l : List UInt8) : (digestOf l).size = 16 := by
  show (Dig.hex (Dig.sum l)).toArray.size = 16
  rw [List.size_toArray, Dig.hex_length]
theorem digestOf_data (l : List UInt8) : (digestOf l).data.toList = Dig.hex (Dig.sum l) := rfl
theorem sumD_any (s : ByteArray) (hs : s.size ≤ 140737488351232) (w : World) :
    Calls Tryd.prog 52 #[.string s] w fun e w' => e = .returned (.string (digestOf s.data.toList)) ∧ Below w.heap.size w w' := sum_any s hs w

set_option maxHeartbeats 1000000 in
theorem list_some (ss : List ByteArray) (bk off cap : Nat) (w : World) (ht : Tab w) (hbk : bk < w.heap.size) (hn : ss.length ≤ 1000000000)
    (hsum : (joinText (ss.map fun s => s.data.toList)).length ≤ 140737488351232)
    (hc : ∀ k, (h : k < ss.length) → w.cell? ⟨bk, off + k, none⟩ = some (.string ss[k])) (hone : ∀ s ∈ ss, s.size ≤ 140737488351232) :
    Calls Tryd.prog 54 #[.slice (some ⟨bk, off, none⟩) ss.length cap] w
      fun e w' => e = .returned (.string (digestOf (joinText (ss.map fun s => s.data.toList)))) ∧ Below w.heap.size w w' := by
  have Hc := Lib.hid hc
  have Hone := Lib.hid hone
  have Htx := Lib.hid (text_some ss bk off cap w ht hbk hn (by omega) hc hone)
  obtain ⟨t, Ht⟩ : ∃ t, Hid (t = joinText (ss.map fun s => s.data.toList)) := ⟨_, Lib.hid rfl⟩
  rw [← Ht.out] at hsum ⊢
  have Hsum := Lib.hid hsum
  clear hc hone hsum Hc Hone
  have Htx2 : Calls Tryd.prog 62 #[.slice (some ⟨bk, off, none⟩) ss.length cap] w fun e w' => e = .returned (.string ⟨t.toArray⟩) ∧ Below w.heap.size w w' := by rw [Ht.out]; exact Htx.out
  clear Htx
  have Htx := Lib.hid Htx2
  clear Htx2
  go_enter Tryd.func54, Tryd.ntmps54
  go_wp2_with fail
  refine Htx.out.mono ?_
  rintro e w1 ⟨rfl, hb1⟩
  go_wp2_with fail
  refine (sumD_any ⟨t.toArray⟩ (by show t.toArray.size ≤ _; simpa using Hsum.out) w1).mono ?_
  rintro e w2 ⟨rfl, hb2⟩
  go_wp2
  go_ret
  exact ⟨rfl, hb1.trans (hb2.mono hb1.size)⟩

end Go.Proofs.YtfnbdjjobndgfaaDoor
