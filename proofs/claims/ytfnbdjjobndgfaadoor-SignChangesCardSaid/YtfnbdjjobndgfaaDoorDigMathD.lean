/- The plain mathematics of digests: texts that differ in one block have different digests. Nothing of the program is imported. -/
import Derived.Test.YtfnbdjjobndgfaaDoorDigMathC
namespace Go.Proofs.YtfnbdjjobndgfaaDoor.Dig

theorem getD_mid (pre A B rest : List UInt8) (hAB : A.length = B.length) (i : Nat) (hi : i < pre.length ∨ pre.length + A.length ≤ i) :
    (pre ++ A ++ rest).getD i 0 = (pre ++ B ++ rest).getD i 0 := by
  simp only [List.getD_eq_getElem?_getD]
  congr 1
  rcases hi with h | h
  · rw [List.append_assoc, List.append_assoc, List.getElem?_append_left h, List.getElem?_append_left h]
  · rw [List.getElem?_append_right (by simp; omega), List.getElem?_append_right (by simp; omega)]
    simp only [List.length_append, hAB]
theorem blk_mid (pre A B rest : List UInt8) (hAB : A.length = B.length) (q : Nat) (hq : q + 8 ≤ pre.length ∨ pre.length + A.length ≤ q) :
    blk (pre ++ A ++ rest) q = blk (pre ++ B ++ rest) q := by
  have h : ∀ i, i < 8 → (pre ++ A ++ rest).getD (q + i) 0 = (pre ++ B ++ rest).getD (q + i) 0 := fun i hi => getD_mid pre A B rest hAB (q + i) (by omega)
  unfold blk
  have h0 := h 0 (by omega)
  rw [Nat.add_zero] at h0
  rw [h0, h 1 (by omega), h 2 (by omega), h 3 (by omega), h 4 (by omega), h 5 (by omega), h 6 (by omega), h 7 (by omega)]
theorem state_prefix (l m : List UInt8) (hlen : l.length = m.length) : ∀ k, (∀ j, j < k → blk l (j * 8) = blk m (j * 8)) → state l k = state m k
  | 0, _ => by unfold state; rw [hlen]
  | k + 1, h => by
    have ih := state_prefix l m hlen k (fun j hj => h j (by omega))
    show mixN (state l k ^^^ num (blk l (k * 8))) = mixN (state m k ^^^ num (blk m (k * 8)))
    rw [ih, h k (by omega)]
/-- Texts that differ in a piece inside one block have the same digest only if the pieces are equal. -/
theorem sum_block (pre A B rest : List UInt8) (p : Nat) (hp : pre.length = p * 8) (hA : A.length ≤ 8) (hAB : A.length = B.length) (hbig : (pre ++ A ++ rest).length < 18446744073709551616)
    (h : sum (pre ++ A ++ rest) = sum (pre ++ B ++ rest)) : A = B := by
  have hlen : (pre ++ A ++ rest).length = (pre ++ B ++ rest).length := by simp [hAB]
  have hbig2 : (pre ++ B ++ rest).length < 18446744073709551616 := by omega
  have hne : ∀ j, j ≠ p → blk (pre ++ A ++ rest) (j * 8) = blk (pre ++ B ++ rest) (j * 8) := by
    intro j hj
    exact blk_mid pre A B rest hAB (j * 8) (by omega)
  unfold sum at h
  rw [← hlen] at h
  obtain ⟨n, hn⟩ : ∃ n, (pre ++ A ++ rest).length / 8 + 1 = (p + 1) + n := by
    have : p * 8 ≤ (pre ++ A ++ rest).length := by simp; omega
    exact ⟨(pre ++ A ++ rest).length / 8 - p, by omega⟩
  rw [hn] at h
  have h1 := state_inj _ _ (p + 1) n (state_lt _ hbig _) (state_lt _ hbig2 _) (fun j hj _ => hne j (by omega)) h
  have h2 : mixN (state (pre ++ A ++ rest) p ^^^ num (blk (pre ++ A ++ rest) (p * 8))) = mixN (state (pre ++ B ++ rest) p ^^^ num (blk (pre ++ B ++ rest) (p * 8))) := h1
  rw [state_prefix _ _ hlen p (fun j hj => hne j (by omega))] at h2
  have h3 := mixN_inj (xor_lt (state_lt _ hbig2 _) (num_blk_lt _ _)) (xor_lt (state_lt _ hbig2 _) (num_blk_lt _ _)) h2
  have h4 := num_inj 8 _ _ rfl rfl (xor_cancel_left h3)
  rw [blk_eq, blk_eq] at h4
  have h5 := congrArg (List.take A.length) h4
  rw [List.append_assoc, List.append_assoc, ← hp, List.drop_left, List.drop_left] at h5
  have k1 : ∀ X : List UInt8, X.length = A.length → List.take A.length (List.take 8 (X ++ rest) ++ List.replicate (8 - ((pre ++ (X ++ rest)).length - pre.length)) 0) = X := by
    intro X hX
    rw [List.take_append_of_le_length (by simp; omega), List.take_take, Nat.min_eq_left hA, ← hX, List.take_left]
  rw [k1 A rfl, k1 B hAB.symm] at h5
  exact h5

end Go.Proofs.YtfnbdjjobndgfaaDoor.Dig
