/- The plain mathematics of digests: short texts, and texts that differ in one block, have different digests. Nothing of the program is imported. -/
import Derived.Test.YtfnbdjjobndgfaaDoorDigMathB
namespace Go.Proofs.YtfnbdjjobndgfaaDoor.Dig

theorem num_inj : ∀ (n : Nat) (l m : List UInt8), l.length = n → m.length = n → num l = num m → l = m := by
  intro n
  induction n with
  | zero => intro l m hl hm _; rw [List.eq_nil_of_length_eq_zero hl, List.eq_nil_of_length_eq_zero hm]
  | succ n ih =>
    intro l m hl hm h
    have hl0 : l ≠ [] := by intro e; rw [e] at hl; cases hl
    have hm0 : m ≠ [] := by intro e; rw [e] at hm; cases hm
    rw [← List.dropLast_concat_getLast hl0, ← List.dropLast_concat_getLast hm0, num_snoc, num_snoc] at h
    have h1 := (l.getLast hl0).toNat_lt
    have h2 := (m.getLast hm0).toNat_lt
    have h3 : (l.getLast hl0).toNat = (m.getLast hm0).toNat := by omega
    have h4 : num l.dropLast = num m.dropLast := by omega
    have h5 := ih _ _ (by simp [hl]) (by simp [hm]) h4
    rw [← List.dropLast_concat_getLast hl0, ← List.dropLast_concat_getLast hm0, h5, UInt8.toNat_inj.1 h3]
theorem xor_cancel_left {a b c : Nat} (h : a ^^^ b = a ^^^ c) : b = c := by
  have := congrArg (a ^^^ ·) h
  simpa [← Nat.xor_assoc] using this
theorem blk_take (l : List UInt8) (h : l.length ≤ 8) : (blk l 0).take l.length = l := by
  rw [blk_eq, List.drop_zero, List.take_append_of_le_length (by simp; omega), List.take_take, Nat.min_eq_left h, List.take_length]
theorem num_blk_last (l : List UInt8) (h : l.length ≤ 7) : num (blk l 0) % 256 = 0 := by
  have e : blk l 0 = [l.getD 0 0, l.getD 1 0, l.getD 2 0, l.getD 3 0, l.getD 4 0, l.getD 5 0, l.getD 6 0] ++ [l.getD 7 0] := rfl
  have z : l.getD 7 0 = 0 := by rw [List.getD_eq_getElem?_getD, List.getElem?_eq_none h]; rfl
  rw [e, z, num_snoc]
  simp
/-- Texts of at most 7 bytes with the same digest are equal. -/
theorem sum_short {l m : List UInt8} (hl : l.length ≤ 7) (hm : m.length ≤ 7) (h : sum l = sum m) : l = m := by
  have e1 : sum l = mixN (7046029254386353131 ^^^ l.length ^^^ num (blk l 0)) := by
    unfold sum; rw [show l.length / 8 + 1 = 0 + 1 by omega]; rfl
  have e2 : sum m = mixN (7046029254386353131 ^^^ m.length ^^^ num (blk m 0)) := by
    unfold sum; rw [show m.length / 8 + 1 = 0 + 1 by omega]; rfl
  rw [e1, e2] at h
  have h := mixN_inj (xor_lt (xor_lt (by decide) (by omega)) (num_blk_lt _ _)) (xor_lt (xor_lt (by decide) (by omega)) (num_blk_lt _ _)) h
  rw [Nat.xor_assoc, Nat.xor_assoc] at h
  have h := xor_cancel_left h
  have hlen : l.length = m.length := by
    have h2 := congrArg (· % 2 ^ 8) h
    simp only [Nat.xor_mod_two_pow] at h2
    rw [show (2 : Nat) ^ 8 = 256 from rfl, num_blk_last l hl, num_blk_last m hm, Nat.xor_zero, Nat.xor_zero] at h2
    omega
  rw [hlen] at h
  have h := num_inj 8 _ _ rfl rfl (xor_cancel_left h)
  rw [← blk_take l (by omega), ← blk_take m (by omega), h, hlen]

end Go.Proofs.YtfnbdjjobndgfaaDoor.Dig
