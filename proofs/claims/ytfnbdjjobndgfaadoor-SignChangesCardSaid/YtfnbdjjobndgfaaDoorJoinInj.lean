/- The plain mathematics of joined texts: different lists have different ones. -/
import Derived.Test.YtfnbdjjobndgfaaDoorJoined
import Derived.Test.YtfnbdjjobndgfaaDoorDigMathC
import Derived.Test.YtfnbdjjobndgfaaDoorDigMathD
namespace Go.Proofs.YtfnbdjjobndgfaaDoor

def decVal (l : List UInt8) : Nat := l.foldl (fun x c => 10 * x + (c.toNat - 48)) 0
theorem decVal_snoc (l : List UInt8) (c : UInt8) : decVal (l ++ [c]) = 10 * decVal l + (c.toNat - 48) := by simp [decVal]
theorem digit_val (d : Nat) (h : d < 10) : (UInt8.ofNat (48 + d)).toNat = 48 + d := by
  rw [UInt8.toNat_ofNat']; omega
theorem decVal_digits (u : Nat) : decVal (Lib.decDigits u) = u := by
  induction u using Nat.strongRecOn with
  | _ u ih =>
    by_cases h : u < 10
    · rw [Lib.decDigits, dif_pos h]
      show decVal ([] ++ [UInt8.ofNat (48 + u)]) = u
      rw [decVal_snoc, digit_val u h]
      simp [decVal]
    · rw [Lib.decDigits, dif_neg h, decVal_snoc, ih (u / 10) (by omega), digit_val _ (by omega)]
      omega
theorem decDigits_byte (u : Nat) : ∀ c ∈ Lib.decDigits u, 48 ≤ c.toNat ∧ c.toNat ≤ 57 := by
  induction u using Nat.strongRecOn with
  | _ u ih =>
    intro c hc
    by_cases h : u < 10
    · rw [Lib.decDigits, dif_pos h] at hc
      obtain rfl := List.mem_singleton.1 hc
      rw [digit_val u h]; omega
    · rw [Lib.decDigits, dif_neg h] at hc
      rcases List.mem_append.1 hc with hc | hc
      · exact ih (u / 10) (by omega) c hc
      · obtain rfl := List.mem_singleton.1 hc
        rw [digit_val _ (by omega)]; omega
theorem split_58 : ∀ (A B X Y : List UInt8), (∀ c ∈ A, c ≠ 58) → (∀ c ∈ B, c ≠ 58) → A ++ 58 :: X = B ++ 58 :: Y → A = B ∧ X = Y
  | [], [], X, Y, _, _, h => ⟨rfl, (List.cons.inj h).2⟩
  | [], b :: B, X, Y, _, hB, h => absurd (List.cons.inj h).1.symm (hB b (by simp))
  | a :: A, [], X, Y, hA, _, h => absurd (List.cons.inj h).1 (hA a (by simp))
  | a :: A, b :: B, X, Y, hA, hB, h => by
    obtain ⟨h1, h2⟩ := List.cons.inj h
    obtain ⟨h3, h4⟩ := split_58 A B X Y (fun c hc => hA c (by simp [hc])) (fun c hc => hB c (by simp [hc])) h2
    exact ⟨by rw [h1, h3], h4⟩
theorem joinText_inj : ∀ (l m : List (List UInt8)), joinText l = joinText m → l = m
  | [], [], _ => rfl
  | [], b :: m, h => by
    have := congrArg List.length h
    simp [joinText] at this
  | a :: l, [], h => by
    have := congrArg List.length h
    simp [joinText] at this
  | a :: l, b :: m, h => by
    have e : ∀ (a : List UInt8) l, joinText (a :: l) = Lib.decDigits a.length ++ 58 :: (a ++ joinText l) := fun a l => by simp [joinText]
    rw [e, e] at h
    have n58 : ∀ u, ∀ c ∈ Lib.decDigits u, c ≠ 58 := fun u c hc hc58 => by have := decDigits_byte u c hc; rw [hc58] at this; exact absurd this.2 (by decide)
    obtain ⟨h1, h2⟩ := split_58 _ _ _ _ (n58 _) (n58 _) h
    have hlen : a.length = b.length := by rw [← decVal_digits a.length, h1, decVal_digits]
    obtain ⟨h3, h4⟩ := List.append_inj h2 hlen
    rw [h3, joinText_inj l m h4]

/-- Lists of one text of at most 9 bytes that agree in the first six. -/
theorem joinText_one (a : List UInt8) (h : a.length < 10) : joinText [a] = UInt8.ofNat (48 + a.length) :: 58 :: a := by
  have : joinText [a] = Lib.decDigits a.length ++ 58 :: a := by simp [joinText]
  rw [this, Lib.decDigits, dif_pos h]; rfl
theorem one_inj {a b : List UInt8} (ha : a.length ≤ 9) (hab : a.length = b.length) (h6 : a.take 6 = b.take 6) (h : Dig.sum (joinText [a]) = Dig.sum (joinText [b])) : a = b := by
  rw [joinText_one a (by omega), joinText_one b (by omega), ← hab] at h
  by_cases hs : a.length ≤ 6
  · have e1 : a.take 6 = a := List.take_of_length_le hs
    have e2 : b.take 6 = b := List.take_of_length_le (by omega)
    rw [← e1, ← e2, h6]
  · have e1 : UInt8.ofNat (48 + a.length) :: 58 :: a = (UInt8.ofNat (48 + a.length) :: 58 :: a.take 6) ++ a.drop 6 ++ [] := by
      rw [List.append_nil, List.cons_append, List.cons_append, List.take_append_drop]
    have e2 : UInt8.ofNat (48 + a.length) :: 58 :: b = (UInt8.ofNat (48 + a.length) :: 58 :: a.take 6) ++ b.drop 6 ++ [] := by
      rw [h6, List.append_nil, List.cons_append, List.cons_append, List.take_append_drop]
    rw [e1, e2] at h
    have := Dig.sum_block (UInt8.ofNat (48 + a.length) :: 58 :: a.take 6) (a.drop 6) (b.drop 6) [] 1 (by simp; omega) (by simp; omega) (by simp [hab]) (by simp; omega) h
    rw [← List.take_append_drop 6 a, ← List.take_append_drop 6 b, h6, this]

end Go.Proofs.YtfnbdjjobndgfaaDoor
